/-
  CODE IN A ROW OF ITS OWN: marking it, and reading the marks again.
-/
import Derived.Test.YthknbafcnobgdaaInsOn
import Derived.Test.YthknbafcnobgdaaButL
namespace Go.Proofs.Ythknbafcnobgdaa
set_option linter.unusedVariables false
set_option linter.unusedSimpArgs false
open Go.RowKit

/-- code in the row b -/
def OneIns (w : World) (b : Nat) (cs : List Ins) (v : Value) : Prop :=
  ∃ ad cap, v = .slice ad cs.length cap ∧ cs.length ≤ cap ∧ cap ≤ maxLen ∧ (cs = [] ∨ ∃ f, ad = some ⟨b, 0, none⟩ ∧ w.rowIs b 66 (cap * 2) f ∧ ∀ i (h : i < cs.length), f (i * 2) = .int .i64 cs[i].op ∧ f (i * 2 + 1) = .int .i64 cs[i].num)
theorem OneIns.keep {w w' : World} {b : Nat} {cs : List Ins} {v : Value} (h : OneIns w b cs v) (hb : b < w.heap.size → w'.heap[b]? = w.heap[b]?) : OneIns w' b cs v := by
  obtain ⟨ad, cap, e, l1, l2, h⟩ := h
  refine ⟨ad, cap, e, l1, l2, h.imp id ?_⟩
  rintro ⟨f, rfl, hr, hf⟩
  exact ⟨f, rfl, hr.of_block (hb hr.lt), hf⟩
theorem OneIns.next {w w' : World} {b : Nat} {cs : List Ins} {v : Value} (h : OneIns w b cs v) (hb : Below w.heap.size w w') : OneIns w' b cs v := h.keep fun hk => hb.block b hk
theorem OneIns.form {w : World} {b : Nat} {cs : List Ins} {v : Value} (h : OneIns w b cs v) : ∃ ad cap, v = .slice ad cs.length cap := by
  obtain ⟨ad, cap, e, -⟩ := h; exact ⟨ad, cap, e⟩
theorem OneIns.inn {w : World} {b : Nat} {cs : List Ins} {v : Value} (h : OneIns w b cs v) : InsIn w cs v := by
  obtain ⟨ad, cap, e, l1, l2, h⟩ := h
  refine ⟨ad, cap, e, l1, l2, h.imp id ?_⟩
  rintro ⟨f, rfl, hr, hf⟩
  refine ⟨b, 0, rfl, hr.lt, fun i hi => ?_⟩
  rw [Nat.zero_add, hr.cell (by omega), hr.cell (by omega), (hf i hi).1, (hf i hi).2]
  exact ⟨rfl, rfl⟩
theorem one_of_ins {w : World} {lo : Nat} {cs : List Ins} {v : Value} (h : InsRow w lo cs v) (d : Nat) : ∃ b, OneIns w b cs v ∧ ((cs ≠ [] ∧ lo ≤ b ∧ b < w.heap.size ∧ v.ownBlock = some b) ∨ b = d) := by
  obtain ⟨ad, cap, e, l1, l2, h⟩ := h
  by_cases hx : cs = []
  · exact ⟨d, ⟨ad, cap, e, l1, l2, Or.inl hx⟩, Or.inr rfl⟩
  · rcases h with h | ⟨g, f, rfl, hg, hr, hf⟩
    · exact absurd h hx
    · exact ⟨g, ⟨_, cap, e, l1, l2, Or.inr ⟨f, rfl, hr, hf⟩⟩, Or.inl ⟨hx, hg, hr.lt, by rw [e]; rfl⟩⟩

/-- marked code -/
def labI (k : Int) (n : Nat) : List Ins := (List.range n).map fun (i : Nat) => ⟨k + 2 * (i : Int), k + 2 * (i : Int) + 1⟩
theorem labI_length (k : Int) (n : Nat) : (labI k n).length = n := by simp [labI]
theorem labI_at (k : Int) (n i : Nat) (h : i < (labI k n).length) : (labI k n)[i] = ⟨k + 2 * (i : Int), k + 2 * (i : Int) + 1⟩ := by simp [labI]

/-- what holds of marked code behind j rounds -/
def MkRel (b n cap : Nat) (k : Int) (w : World) (j : Nat) (wr : World) : Prop :=
  ∃ f, wr.rowIs b 66 (cap * 2) f ∧ (∀ i, i < j → f (i * 2) = .int .i64 (k + 2 * (i : Int)) ∧ f (i * 2 + 1) = .int .i64 (k + 2 * (i : Int) + 1)) ∧ ButL [b] w wr
theorem mkRel_step {b n cap : Nat} {k : Int} {w wr : World} {j : Nat} (h : MkRel b n cap k w j wr) : MkRel b n cap k w (j + 1) (stK wr b j (k + 2 * (j : Int)) (k + 2 * (j : Int) + 1)) := by
  obtain ⟨f, hr, hf, hb⟩ := h
  obtain ⟨f', h1, h2, h3, h4⟩ := rows2_step hr j (k + 2 * (j : Int)) (k + 2 * (j : Int) + 1)
  refine ⟨f', h1, fun i hi => ?_, ?_⟩
  · by_cases hij : i = j
    · subst hij; exact ⟨h2, h3⟩
    · rw [(h4 i hij).1, (h4 i hij).2]; exact hf i (by omega)
  · unfold stK
    exact (hb.trans (ButL.setCell _ _ _ (by simp) _)).trans (ButL.setCell _ _ _ (by simp) _)

set_option maxRecDepth 100000 in
set_option maxHeartbeats 800000 in
theorem markIns_calls (cs : List Ins) (b : Nat) (v : Value) (k : Int) (w : World) (h : OneIns w b cs v) (h0 : 0 ≤ k) (h1 : k + 2 * (cs.length : Int) ≤ 1152921504606846976) :
    Calls Try.prog 20 #[v, .int .i64 k] w fun e w' => e = .returned (.int .i64 (k + 2 * (cs.length : Int))) ∧ OneIns w' b (labI k cs.length) v ∧ ButL [b] w w' ∧ (cs = [] → ButL [] w w') := by
  obtain ⟨ad, cap, rfl, l1, l2, h⟩ := h
  have hm := l2
  unfold maxLen at hm
  by_cases hn : cs = []
  · subst hn
    have HO : Hid (OneIns w b (labI k 0) (.slice ad 0 cap)) := ⟨ad, cap, rfl, Nat.zero_le _, l2, Or.inl rfl⟩
    clear h
    go_enter Try.func20, Try.ntmps20
    go_wp2_with fail
    go_loopw [1, 5] (fun q i wr => i = .int .i64 0 ∧ q = .int .i64 k ∧ wr = w) (fun _ i _ => 0)
    case atStart => exact ⟨rfl, rfl, rfl⟩
    case round =>
      obtain ⟨rfl, rfl, rfl⟩ := hrel
      go_wp2_with fail
      go_ret
      exact ⟨ret_int (by simp), HO.out, ButL.refl _ _, fun _ => ButL.refl _ _⟩
  · rcases h with h | ⟨f, rfl, hr, hf⟩
    · exact absurd h hn
    have HS : Hid (MkRel b cs.length cap k w 0 w) := ⟨f, hr, fun i hi => absurd hi (by omega), ButL.refl _ _⟩
    have HNE : Hid (cs ≠ []) := hn
    clear hr hf hn
    go_enter Try.func20, Try.ntmps20
    go_wp2_with fail
    go_loopw [1, 5] (fun q i wr => ∃ j : Nat, j ≤ cs.length ∧ i = .int .i64 j ∧ q = .int .i64 (k + 2 * (j : Int)) ∧ MkRel b cs.length cap k w j wr) (fun _ i _ => cs.length - (intOf i).toNat)
    case atStart => exact ⟨0, Nat.zero_le _, rfl, by simp, HS.out⟩
    case round =>
      obtain ⟨j, hj, rfl, rfl, hto⟩ := hrel
      have HT : Hid (MkRel b cs.length cap k w j wr) := hto
      obtain ⟨f', hr1, _, _⟩ := hto
      by_cases hlt : j < cs.length
      · have HN : Hid (MkRel b cs.length cap k w (j + 1) (stK wr b j (k + 2 * (j : Int)) (k + 2 * (j : Int) + 1))) := mkRel_step HT.out
        have g0 := hr1.cell (i := j * 2) (by omega)
        have g1 := hr1.cell (i := j * 2 + 1) (by omega)
        have f0 := hr1.frozen (j * 2)
        have f1 := hr1.frozen (j * 2 + 1)
        clear hr1
        go_wp2_with fail
        go_roundw
        case rel => exact ⟨j + 1, by omega, by go_num, congrArg (Value.int .i64) (by push_cast; omega), HN.out⟩
        case measure => simp [intOf]; omega
      · have hje : j = cs.length := by omega
        have HJ : Hid (k + 2 * (cs.length : Int) = k + 2 * (j : Int)) := by rw [hje]; rfl
        have HO : Hid (OneIns wr b (labI k cs.length) (.slice (some ⟨b, 0, none⟩) cs.length cap) ∧ ButL [b] w wr) := by
          obtain ⟨f2, q1, q2, q3⟩ := HT.out
          refine ⟨⟨_, cap, by rw [labI_length], by rw [labI_length]; exact l1, l2, Or.inr ⟨f2, rfl, q1, fun i hi => ?_⟩⟩, q3⟩
          rw [labI_at]
          rw [labI_length] at hi
          exact q2 i (by omega)
        clear hje hr1
        go_wp2_with fail
        go_ret
        exact ⟨ret_int HJ.out.symm, HO.out.1, HO.out.2, fun h => absurd h HNE.out⟩

set_option maxRecDepth 100000 in
set_option maxHeartbeats 800000 in
theorem heldIns_calls (n : Nat) (v : Value) (k : Int) (w : World) (h : InsIn w (labI k n) v) (h0 : 0 ≤ k) (h1 : k + 2 * (n : Int) ≤ 1152921504606846976) :
    Calls Try.prog 21 #[v, .int .i64 k] w fun e w' => e = .returned (.int .i64 (k + 2 * (n : Int))) ∧ Below w.heap.size w w' := by
  have HC : Hid (InsIn w (labI k n) v) := h
  obtain ⟨ad, cap, rfl, hl, hm, -⟩ := h
  rw [labI_length] at hl HC
  unfold maxLen at hm
  rw [labI_length]
  go_enter Try.func21, Try.ntmps21
  go_wp2_with fail
  go_loopw [1, 5] (fun q i wr => ∃ j : Nat, j ≤ n ∧ i = .int .i64 j ∧ q = .int .i64 (k + 2 * (j : Int)) ∧ Below w.heap.size w wr) (fun _ i _ => n - (intOf i).toNat)
  case atStart => exact ⟨0, Nat.zero_le _, rfl, by simp, Below.refl _ _⟩
  case round =>
    obtain ⟨j, hj, rfl, rfl, hb⟩ := hrel
    by_cases hlt : j < n
    · obtain ⟨bl, off, rfl, -, c0, c1⟩ := (HC.out.next hb).at j (by rw [labI_length]; exact hlt)
      rw [labI_at] at c0 c1
      have t0 : ((k + 2 * (j : Int)) != (k + 2 * (j : Int))) = false := by simp
      have t1 : ((k + 2 * (j : Int) + 1) != (k + 2 * (j : Int) + 1)) = false := by simp
      go_wp2_with fail
      go_roundw
      case rel => exact ⟨j + 1, by omega, by go_num, congrArg (Value.int .i64) (by push_cast; omega), hb⟩
      case measure => simp [intOf]; omega
    · have hje : j = n := by omega
      have HJ : Hid (k + 2 * (n : Int) = k + 2 * (j : Int)) := by rw [hje]; rfl
      have HB : Hid (Below w.heap.size w wr) := hb
      clear hje hb
      go_wp2_with fail
      go_ret
      exact ⟨ret_int HJ.out.symm, HB.out⟩

/-- code in rows of its own, in the blocks fp -/
def InsFp (w : World) (fp : List Nat) (cs : List Ins) (v : Value) : Prop := ∃ b, OneIns w b cs v ∧ ((cs = [] ∧ fp = []) ∨ (cs ≠ [] ∧ fp = [b]))
theorem InsFp.keep {w w' : World} {fp : List Nat} {cs : List Ins} {v : Value} (h : InsFp w fp cs v) (hb : ∀ k ∈ fp, w'.heap[k]? = w.heap[k]?) : InsFp w' fp cs v := by
  obtain ⟨b, h1, h2⟩ := h
  refine ⟨b, ?_, h2⟩
  rcases h2 with ⟨rfl, -⟩ | ⟨hn, rfl⟩
  · obtain ⟨ad, cap, e, l1, l2, -⟩ := h1
    exact ⟨ad, cap, e, l1, l2, Or.inl rfl⟩
  · exact h1.keep fun _ => hb b (by simp)
theorem InsFp.inn {w : World} {fp : List Nat} {cs : List Ins} {v : Value} (h : InsFp w fp cs v) : InsIn w cs v := by
  obtain ⟨b, h1, -⟩ := h; exact h1.inn
theorem InsFp.form {w : World} {fp : List Nat} {cs : List Ins} {v : Value} (h : InsFp w fp cs v) : ∃ ad cap, v = .slice ad cs.length cap := by
  obtain ⟨b, h1, -⟩ := h; exact h1.form
theorem InsFp.lt {w : World} {fp : List Nat} {cs : List Ins} {v : Value} (h : InsFp w fp cs v) : ∀ k ∈ fp, k < w.heap.size := by
  intro k hk
  obtain ⟨b, ⟨ad, cap, e, l1, l2, h1⟩, h2⟩ := h
  rcases h2 with ⟨-, rfl⟩ | ⟨hn, rfl⟩
  · simp at hk
  · rcases h1 with h1 | ⟨f, -, hr, -⟩
    · exact absurd h1 hn
    · rw [List.mem_singleton] at hk; subst hk; exact hr.lt
theorem ins_fp {w : World} {lo : Nat} {cs : List Ins} {v : Value} (h : InsRow w lo cs v) : ∃ fp, InsFp w fp cs v ∧ ∀ k ∈ fp, lo ≤ k ∧ k < w.heap.size := by
  obtain ⟨b, h1, h2⟩ := one_of_ins h w.heap.size
  by_cases hn : cs = []
  · exact ⟨[], ⟨b, h1, Or.inl ⟨hn, rfl⟩⟩, by simp⟩
  · refine ⟨[b], ⟨b, h1, Or.inr ⟨hn, rfl⟩⟩, fun k hk => ?_⟩
    rw [List.mem_singleton] at hk
    subst hk
    rcases h2 with ⟨-, h3, h4, -⟩ | rfl
    · exact ⟨h3, h4⟩
    · obtain ⟨ad, cap, e, l1, l2, h5⟩ := h1
      rcases h5 with h5 | ⟨f, -, hr, -⟩
      · exact absurd h5 hn
      · exact absurd hr.lt (Nat.lt_irrefl _)
theorem markFp_calls (cs : List Ins) (fp : List Nat) (v : Value) (k : Int) (w : World) (h : InsFp w fp cs v) (h0 : 0 ≤ k) (h1 : k + 2 * (cs.length : Int) ≤ 1152921504606846976) :
    Calls Try.prog 20 #[v, .int .i64 k] w fun e w' => e = .returned (.int .i64 (k + 2 * (cs.length : Int))) ∧ InsFp w' fp (labI k cs.length) v ∧ ButL fp w w' := by
  obtain ⟨b, h2, h3⟩ := h
  refine (markIns_calls cs b v k w h2 h0 h1).mono ?_
  rintro e w' ⟨rfl, h4, h5, h6⟩
  have hl := labI_length k cs.length
  refine ⟨rfl, ⟨b, h4, ?_⟩, ?_⟩
  · rcases h3 with ⟨e, rfl⟩ | ⟨e, rfl⟩
    · exact Or.inl ⟨List.eq_nil_of_length_eq_zero (by rw [hl, e]; rfl), rfl⟩
    · refine Or.inr ⟨fun h => e ?_, rfl⟩
      rw [h] at hl
      exact List.eq_nil_of_length_eq_zero (by simpa using hl.symm)
  · rcases h3 with ⟨e, rfl⟩ | ⟨e, rfl⟩
    · exact h6 e
    · exact h5
end Go.Proofs.Ythknbafcnobgdaa
