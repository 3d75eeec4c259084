/-
  CODE IN A ROW OF ITS OWN: marking it, and reading the marks again.
-/
import Derived.Test.YthknbafcnobgdaaMgExactDecompileCode1
import Derived.Test.YthknbafcnobgdaaMgExactDecompileCode2
import Derived.Test.YthknbafcnobgdaaProg
import Derived.Deep.RegionHeld3
import Derived.Deep.RegionWith
import Derived.Deep.DeepMust
import Derived.Test.YthknbafcnobgdaaMgExactDecompileCode6
namespace Go.Proofs.Ythknbafcnobgdaa
set_option linter.unusedVariables false
set_option linter.unusedSimpArgs false
open Go.RowKit

/-- code in the row b -/
def OneIns (w : World) (b : Nat) (cs : List Ins) (v : Value) : Prop :=
  ∃ ad cap, v = .slice ad cs.length cap ∧ cs.length ≤ cap ∧ cap ≤ maxLen ∧ (cs = [] ∨ ∃ f, ad = some ⟨b, 0, none⟩ ∧ w.rowIs b 66 (cap * 2) f ∧ ∀ i (h : i < cs.length), f (i * 2) = .int .i64 cs[i].op ∧ f (i * 2 + 1) = .int .i64 cs[i].num)
theorem OneIns.keep {w w' : World} {b : Nat} {cs : List Ins} {v : Value} (h : OneIns w b cs v) (hb : b < w.heap.size → w'.heap[b]? = w.heap[b]?) : OneIns w' b cs v := by
  obtain ⟨ad, cap, e, l1, l2, h⟩ := h
  refine ⟨ad, cap, e, l1, l2, h.imp id ?_⟩
  rintro ⟨f, rfl, hr, hf⟩
  exact ⟨f, rfl, hr.of_block (hb hr.lt), hf⟩
theorem OneIns.next {w w' : World} {b : Nat} {cs : List Ins} {v : Value} (h : OneIns w b cs v) (hb : Below w.heap.size w w') : OneIns w' b cs v := h.keep fun hk => hb.block b hk
theorem OneIns.form {w : World} {b : Nat} {cs : List Ins} {v : Value} (h : OneIns w b cs v) : ∃ ad cap, v = .slice ad cs.length cap := by
  obtain ⟨ad, cap, e, -⟩ := h; exact ⟨ad, cap, e⟩
theorem OneIns.inn {w : World} {b : Nat} {cs : List Ins} {v : Value} (h : OneIns w b cs v) : InsIn w cs v := by
  obtain ⟨ad, cap, e, l1, l2, h⟩ := h
  refine ⟨ad, cap, e, l1, l2, h.imp id ?_⟩
  rintro ⟨f, rfl, hr, hf⟩
  refine ⟨b, 0, rfl, hr.lt, fun i hi => ?_⟩
  rw [Nat.zero_add, hr.cell (by omega), hr.cell (by omega), (hf i hi).1, (hf i hi).2]
  exact ⟨rfl, rfl⟩
theorem one_of_ins {w : World} {lo : Nat} {cs : List Ins} {v : Value} (h : InsRow w lo cs v) (d : Nat) : ∃ b, OneIns w b cs v ∧ ((cs ≠ [] ∧ lo ≤ b ∧ b < w.heap.size ∧ v.ownBlock = some b) ∨ b = d) := by
  obtain ⟨ad, cap, e, l1, l2, h⟩ := h
  by_cases hx : cs = []
  · exact ⟨d, ⟨ad, cap, e, l1, l2, Or.inl hx⟩, Or.inr rfl⟩
  · rcases h with h | ⟨g, f, rfl, hg, hr, hf⟩
    · exact absurd h hx
    · exact ⟨g, ⟨_, cap, e, l1, l2, Or.inr ⟨f, rfl, hr, hf⟩⟩, Or.inl ⟨hx, hg, hr.lt, by rw [e]; rfl⟩⟩

/-- marked code -/
def labI (k : Int) (n : Nat) : List Ins := (List.range n).map fun (i : Nat) => ⟨k + 2 * (i : Int), k + 2 * (i : Int) + 1⟩
theorem labI_length (k : Int) (n : Nat) : (labI k n).length = n := by simp [labI]
theorem labI_at (k : Int) (n i : Nat) (h : i < (labI k n).length) : (labI k n)[i] = ⟨k + 2 * (i : Int), k + 2 * (i : Int) + 1⟩ := by simp [labI]

/-- what holds of marked code behind j rounds -/
def MkRel (b n cap : Nat) (k : Int) (w : World) (j : Nat) (wr : World) : Prop :=
  ∃ f, wr.rowIs b 66 (cap * 2) f ∧ (∀ i, i < j → f (i * 2) = .int .i64 (k + 2 * (i : Int)) ∧ f (i * 2 + 1) = .int .i64 (k + 2 * (i : Int) + 1)) ∧ ButL [b] w wr
theorem mkRel_step {b n cap : Nat} {k : Int} {w wr : World} {j : Nat} (h : MkRel b n cap k w j wr) : MkRel b n cap k w (j + 1) (stK wr b j (k + 2 * (j : Int)) (k + 2 * (j : Int) + 1)) := by
  obtain ⟨f, hr, hf, hb⟩ := h
  obtain ⟨f', h1, h2, h3, h4⟩ := rows2_step hr j (k + 2 * (j : Int)) (k + 2 * (j : Int) + 1)
  refine ⟨f', h1, fun i hi => ?_, ?_⟩
  · by_cases hij : i = j
    · subst hij; exact ⟨h2, h3⟩
    · rw [(h4 i hij).1, (h4 i hij).2]; exact hf i (by omega)
  · unfold stK
    exact (hb.trans (ButL.setCell _ _ _ (by simp) _)).trans (ButL.setCell _ _ _ (by simp) _)

set_option maxRecDepth 100000 in
set_option maxHeartbeats 800000 in
theorem markIns_calls (cs : List Ins) (b : Nat) (v : Value) (k : Int) (w : World) (h : OneIns w b cs v) (h0 : 0 ≤ k) (h1 : k + 2 * (cs.length : Int) ≤ 1152921504606846976) :
    Calls Try.prog 20 #[v, .int .i64 k] w fun e w' => e = .returned (.int .i64 (k + 2 * (cs.length : Int))) ∧ OneIns w' b (labI k cs.length) v ∧ ButL [b] w w' ∧ (cs = [] → ButL [] w w') := by
  obtain ⟨ad, cap, rfl, l1, l2, h⟩ := h
  have hm := l2
  unfold maxLen at hm
  by_cases hn : cs = []
  · subst hn
    have HO : Hid (OneIns w b (labI k 0) (.slice ad 0 cap)) := ⟨ad, cap, rfl, Nat.zero_le _, l2, Or.inl rfl⟩
    clear h
    go_enter Try.func20, Try.ntmps20
    go_wp2_with fail
    go_loopw [1, 5] (fun q i wr => i = .int .i64 0 ∧ q = .int .i64 k ∧ wr = w) (fun _ i _ => 0)
    case atStart => exact ⟨rfl, rfl, rfl⟩
    case round =>
      obtain ⟨rfl, rfl, rfl⟩ := hrel
      go_wp2_with fail
      go_ret
      exact ⟨ret_int (by simp), HO.out, ButL.refl _ _, fun _ => ButL.refl _ _⟩
  · rcases h with h | ⟨f, rfl, hr, hf⟩
    · exact absurd h hn
    have HS : Hid (MkRel b cs.length cap k w 0 w) := ⟨f, hr, fun i hi => absurd hi (by omega), ButL.refl _ _⟩
    have HNE : Hid (cs ≠ []) := hn
    clear hr hf hn
    go_enter Try.func20, Try.ntmps20
    go_wp2_with fail
    go_loopw [1, 5] (fun q i wr => ∃ j : Nat, j ≤ cs.length ∧ i = .int .i64 j ∧ q = .int .i64 (k + 2 * (j : Int)) ∧ MkRel b cs.length cap k w j wr) (fun _ i _ => cs.length - (intOf i).toNat)
    case atStart => exact ⟨0, Nat.zero_le _, rfl, by simp, HS.out⟩
    case round =>
      obtain ⟨j, hj, rfl, rfl, hto⟩ := hrel
      have HT : Hid (MkRel b cs.length cap k w j wr) := hto
      obtain ⟨f', hr1, _, _⟩ := hto
      by_cases hlt : j < cs.length
      · have HN : Hid (MkRel b cs.length cap k w (j + 1) (stK wr b j (k + 2 * (j : Int)) (k + 2 * (j : Int) + 1))) := mkRel_step HT.out
        have g0 := hr1.cell (i := j * 2) (by omega)
        have g1 := hr1.cell (i := j * 2 + 1) (by omega)
        have f0 := hr1.frozen (j * 2)
        have f1 := hr1.frozen (j * 2 + 1)
        clear hr1
        go_wp2_with fail
        go_roundw
        case rel => exact ⟨j + 1, by omega, by go_num, congrArg (Value.int .i64) (by push_cast; omega), HN.out⟩
        case measure => simp [intOf]; omega
      · have hje : j = cs.length := by omega
        have HJ : Hid (k + 2 * (cs.length : Int) = k + 2 * (j : Int)) := by rw [hje]; rfl
        have HO : Hid (OneIns wr b (labI k cs.length) (.slice (some ⟨b, 0, none⟩) cs.length cap) ∧ ButL [b] w wr) := by
          obtain ⟨f2, q1, q2, q3⟩ := HT.out
          refine ⟨⟨_, cap, by rw [labI_length], by rw [labI_length]; exact l1, l2, Or.inr ⟨f2, rfl, q1, fun i hi => ?_⟩⟩, q3⟩
          rw [labI_at]
          rw [labI_length] at hi
          exact q2 i (by omega)
        clear hje hr1
        go_wp2_with fail
        go_ret
        exact ⟨ret_int HJ.out.symm, HO.out.1, HO.out.2, fun h => absurd h HNE.out⟩

set_option maxRecDepth 100000 in
set_option maxHeartbeats 800000 in
theorem heldIns_calls (n : Nat) (v : Value) (k : Int) (w : World) (h : InsIn w (labI k n) v) (h0 : 0 ≤ k) (h1 : k + 2 * (n : Int) ≤ 1152921504606846976) :
    Calls Try.prog 21 #[v, .int .i64 k] w fun e w' => e = .returned (.int .i64 (k + 2 * (n : Int))) ∧ Below w.heap.size w w' := by
  have HC : Hid (InsIn w (labI k n) v) := h
  obtain ⟨ad, cap, rfl, hl, hm, -⟩ := h
  rw [labI_length] at hl HC
  unfold maxLen at hm
  rw [labI_length]
  go_enter Try.func21, Try.ntmps21
  go_wp2_with fail
  go_loopw [1, 5] (fun q i wr => ∃ j : Nat, j ≤ n ∧ i = .int .i64 j ∧ q = .int .i64 (k + 2 * (j : Int)) ∧ Below w.heap.size w wr) (fun _ i _ => n - (intOf i).toNat)
  case atStart => exact ⟨0, Nat.zero_le _, rfl, by simp, Below.refl _ _⟩
  case round =>
    obtain ⟨j, hj, rfl, rfl, hb⟩ := hrel
    by_cases hlt : j < n
    · obtain ⟨bl, off, rfl, -, c0, c1⟩ := (HC.out.next hb).at j (by rw [labI_length]; exact hlt)
      rw [labI_at] at c0 c1
      have t0 : ((k + 2 * (j : Int)) != (k + 2 * (j : Int))) = false := by simp
      have t1 : ((k + 2 * (j : Int) + 1) != (k + 2 * (j : Int) + 1)) = false := by simp
      go_wp2_with fail
      go_roundw
      case rel => exact ⟨j + 1, by omega, by go_num, congrArg (Value.int .i64) (by push_cast; omega), hb⟩
      case measure => simp [intOf]; omega
    · have hje : j = n := by omega
      have HJ : Hid (k + 2 * (n : Int) = k + 2 * (j : Int)) := by rw [hje]; rfl
      have HB : Hid (Below w.heap.size w wr) := hb
      clear hje hb
      go_wp2_with fail
      go_ret
      exact ⟨ret_int HJ.out.symm, HB.out⟩

/-- code in rows of its own, in the blocks fp -/
def InsFp (w : World) (fp : List Nat) (cs : List Ins) (v : Value) : Prop := ∃ b, OneIns w b cs v ∧ ((cs = [] ∧ fp = []) ∨ (cs ≠ [] ∧ fp = [b]))
theorem InsFp.keep {w w' : World} {fp : List Nat} {cs : List Ins} {v : Value} (h : InsFp w fp cs v) (hb : ∀ k ∈ fp, w'.heap[k]? = w.heap[k]?) : InsFp w' fp cs v := by
  obtain ⟨b, h1, h2⟩ := h
  refine ⟨b, ?_, h2⟩
  rcases h2 with ⟨rfl, -⟩ | ⟨hn, rfl⟩
  · obtain ⟨ad, cap, e, l1, l2, -⟩ := h1
    exact ⟨ad, cap, e, l1, l2, Or.inl rfl⟩
  · exact h1.keep fun _ => hb b (by simp)
theorem InsFp.inn {w : World} {fp : List Nat} {cs : List Ins} {v : Value} (h : InsFp w fp cs v) : InsIn w cs v := by
  obtain ⟨b, h1, -⟩ := h; exact h1.inn
theorem InsFp.form {w : World} {fp : List Nat} {cs : List Ins} {v : Value} (h : InsFp w fp cs v) : ∃ ad cap, v = .slice ad cs.length cap := by
  obtain ⟨b, h1, -⟩ := h; exact h1.form
theorem InsFp.lt {w : World} {fp : List Nat} {cs : List Ins} {v : Value} (h : InsFp w fp cs v) : ∀ k ∈ fp, k < w.heap.size := by
  intro k hk
  obtain ⟨b, ⟨ad, cap, e, l1, l2, h1⟩, h2⟩ := h
  rcases h2 with ⟨-, rfl⟩ | ⟨hn, rfl⟩
  · simp at hk
  · rcases h1 with h1 | ⟨f, -, hr, -⟩
    · exact absurd h1 hn
    · rw [List.mem_singleton] at hk; subst hk; exact hr.lt
theorem ins_fp {w : World} {lo : Nat} {cs : List Ins} {v : Value} (h : InsRow w lo cs v) : ∃ fp, InsFp w fp cs v ∧ ∀ k ∈ fp, lo ≤ k ∧ k < w.heap.size := by
  obtain ⟨b, h1, h2⟩ := one_of_ins h w.heap.size
  by_cases hn : cs = []
  · exact ⟨[], ⟨b, h1, Or.inl ⟨hn, rfl⟩⟩, by simp⟩
  · refine ⟨[b], ⟨b, h1, Or.inr ⟨hn, rfl⟩⟩, fun k hk => ?_⟩
    rw [List.mem_singleton] at hk
    subst hk
    rcases h2 with ⟨-, h3, h4, -⟩ | rfl
    · exact ⟨h3, h4⟩
    · obtain ⟨ad, cap, e, l1, l2, h5⟩ := h1
      rcases h5 with h5 | ⟨f, -, hr, -⟩
      · exact absurd h5 hn
      · exact absurd hr.lt (Nat.lt_irrefl _)
theorem markFp_calls (cs : List Ins) (fp : List Nat) (v : Value) (k : Int) (w : World) (h : InsFp w fp cs v) (h0 : 0 ≤ k) (h1 : k + 2 * (cs.length : Int) ≤ 1152921504606846976) :
    Calls Try.prog 20 #[v, .int .i64 k] w fun e w' => e = .returned (.int .i64 (k + 2 * (cs.length : Int))) ∧ InsFp w' fp (labI k cs.length) v ∧ ButL fp w w' := by
  obtain ⟨b, h2, h3⟩ := h
  refine (markIns_calls cs b v k w h2 h0 h1).mono ?_
  rintro e w' ⟨rfl, h4, h5, h6⟩
  have hl := labI_length k cs.length
  refine ⟨rfl, ⟨b, h4, ?_⟩, ?_⟩
  · rcases h3 with ⟨e, rfl⟩ | ⟨e, rfl⟩
    · exact Or.inl ⟨List.eq_nil_of_length_eq_zero (by rw [hl, e]; rfl), rfl⟩
    · refine Or.inr ⟨fun h => e ?_, rfl⟩
      rw [h] at hl
      exact List.eq_nil_of_length_eq_zero (by simpa using hl.symm)
  · rcases h3 with ⟨e, rfl⟩ | ⟨e, rfl⟩
    · exact h6 e
    · exact h5
end Go.Proofs.Ythknbafcnobgdaa
/-
  THE LAWS' OWN MARKING OF TREES, THE WALK: markExprS, markExpr.
-/
namespace Go.Proofs.Ythknbafcnobgdaa
set_option linter.unusedVariables false
set_option linter.unusedSimpArgs false
open Go.RowKit

/-- the contract of markExprS at one list -/
def MarkSSaid (ks : List Tr) : Prop := ∀ (fp : List Nat) (c : Value) (k : Int) (w : World), KidsFp w 37 ks fp c → fp.Nodup → 0 ≤ k → k + 2 * (szL ks : Int) ≤ 1152921504606846976 →
  Calls Try.prog 40 #[c, .int .i64 k] w fun e w' => e = .returned (.int .i64 (k + 2 * (szL ks : Int))) ∧ KidsFp w' 37 (labL ks k) fp c ∧ ButL fp w w'

/-- a list of which the first j elements are marked -/
def Half (ks : List Tr) (k : Int) (j : Nat) (ms : List Tr) : Prop := ms.length = ks.length ∧ ∀ i (hi : i < ks.length) (hm : i < ms.length), ms[i] = if i < j then .node (labAt ks k i) (labAt ks k i + 1) (labL ks[i].kids (labAt ks k i + 2)) else ks[i]
theorem Half.zero (ks : List Tr) (k : Int) : Half ks k 0 ks := ⟨rfl, fun i hi hm => by simp⟩
theorem Half.step {ks ms : List Tr} {k : Int} {j : Nat} (h : Half ks k j ms) (hj : j < ks.length) : Half ks k (j + 1) (ms.set j (.node (labAt ks k j) (labAt ks k j + 1) (labL ks[j].kids (labAt ks k j + 2)))) := by
  refine ⟨by rw [List.length_set]; exact h.1, fun i hi hm => ?_⟩
  rw [List.getElem_set]
  by_cases hij : j = i
  · subst hij; simp
  · rw [if_neg hij, h.2 i hi (by rw [h.1]; exact hi)]
    by_cases hlt : i < j
    · rw [if_pos hlt, if_pos (by omega)]
    · rw [if_neg hlt, if_neg (by omega)]
theorem Half.done {ks ms : List Tr} {k : Int} (h : Half ks k ks.length ms) : ms = labL ks k := by
  refine List.ext_getElem (by rw [h.1, labL_length]) fun i h1 h2 => ?_
  have hi : i < ks.length := by rw [← h.1]; exact h1
  rw [h.2 i hi h1, if_pos hi, labL_get ks k i hi]
theorem Half.at {ks ms : List Tr} {k : Int} {j : Nat} (h : Half ks k j ms) (hj : j < ks.length) (hm : j < ms.length) : ms[j] = ks[j] := by rw [h.2 j hj hm, if_neg (by omega)]

/-- one round's worlds -/
theorem markS_after {T : TypeId} {w w1 : World} {bl off : Nat} {ks ms : List Tr} {fps : List (List Nat)} {C : Array Value} {k : Int} {j : Nat} {f : List Nat} {r : Value} (hC : w.heap[bl]? = some (.cells C T)) (hr : RowFp w T bl off ms fps) (hn : (bl :: fps.flatten).Nodup)
    (hk : 0 ≤ labAt ks k j ∧ labAt ks k j ≤ 1152921504606846976) (hj : j < ks.length) (hh : Half ks k j ms) (hf : fps[j]? = some f) (hc : w.cell? ⟨bl, off + j * 3 + 2, none⟩ = some r) {x : Int} (hx : x = labAt ks k j + 2)
    (h1 : KidsFp w1 T (labL ks[j].kids x) f r) (hb : ButL f ((w.setCell ⟨bl, off + j * 3, none⟩ (.int .i64 (labAt ks k j))).setCell ⟨bl, off + j * 3 + 1, none⟩ (.int .i64 (labAt ks k j + 1))) w1) :
    RowFp w1 T bl off (ms.set j (.node (labAt ks k j) (labAt ks k j + 1) (labL ks[j].kids (labAt ks k j + 2)))) fps ∧ (∃ C', w1.heap[bl]? = some (.cells C' T)) ∧ ButL (bl :: fps.flatten) w w1 := by
  subst hx
  have := RowFp.mark hC hr hn j (by rw [hh.1]; exact hj) (labAt ks k j) (labAt ks k j + 1) (by unfold I64; omega) (by unfold I64; omega) f hf r hc _ h1 hb
  refine ⟨this.1, this.2, ?_⟩
  have hm : ∀ k ∈ f, k ∈ bl :: fps.flatten := fun k hk => List.mem_cons_of_mem _ (List.mem_flatten.2 ⟨f, List.mem_of_getElem? hf, hk⟩)
  exact ((ButL.setCell w bl _ (by simp) _).trans (ButL.setCell _ bl _ (by simp) _)).trans (hb.mono hm)

set_option maxHeartbeats 800000 in
theorem markS_step (ks : List Tr) (ih : ∀ i (hi : i < ks.length), MarkSSaid (ks[i]).kids) : MarkSSaid ks := by
  intro fp c k w hk hn h0 h1
  have HI : Hid (∀ i (hi : i < ks.length), MarkSSaid (ks[i]).kids) := ih
  have HK : Hid (KidsFp w 37 ks fp c) := hk
  have HN : Hid fp.Nodup := hn
  clear ih hn
  obtain ⟨ad, cap, rfl, hl, hm, hrow⟩ := hk
  unfold maxLen at hm
  clear hrow
  go_enter Try.func40, Try.ntmps40
  go_wp2_with fail
  go_loopw [1, 5] (fun l i wr => ∃ j : Nat, ∃ ms, j ≤ ks.length ∧ i = .int .i64 j ∧ l = .int .i64 (labAt ks k j) ∧ Half ks k j ms ∧ KidsFp wr 37 ms fp (.slice ad ks.length cap) ∧ ButL fp w wr) (fun _ i _ => ks.length - (intOf i).toNat)
  case atStart => exact ⟨0, ks, Nat.zero_le _, rfl, by rw [labAt_zero], Half.zero ks k, HK.out, ButL.refl _ _⟩
  case round =>
    obtain ⟨j, ms, hj, rfl, rfl, hhalf, hkr, hb⟩ := hrel
    have hle := labAt_le ks k j
    have HH : Hid (Half ks k j ms) := hhalf
    have HB : Hid (ButL fp w wr) := hb
    have HKR : Hid (KidsFp wr 37 ms fp (.slice ad ks.length cap)) := hkr
    have hml := hhalf.1
    clear hb
    by_cases hlt : j < ks.length
    · obtain ⟨ad', cap', he, _, _, hr⟩ := hkr
      rw [hml] at he
      cases he
      rcases hr with ⟨hr, _⟩ | ⟨bl, off, C, fps, rfl, hC, rfl, hr⟩
      · rw [hr] at hml; simp at hml; omega
      obtain ⟨hfl, f, hf, p, q, r, c0, c1, c2, ht⟩ := RowFp.at ms fps off j (by omega) hr
      rw [hhalf.at hlt] at ht
      obtain ⟨rfl, rfl, _, _, hkk⟩ := trFp_iff.1 ht
      obtain ⟨C1, hC1⟩ := set_block hC (off + j * 3) (.int .i64 (labAt ks k j))
      have f0 := cells_thawed hC (off + j * 3)
      have f1 := cells_thawed hC1 (off + j * 3 + 1)
      have d1 := (set_off hC (show off + j * 3 + 1 ≠ off + j * 3 by omega) (.int .i64 (labAt ks k j))).trans c1
      have d2 := (set_off hC (show off + j * 3 + 2 ≠ off + j * 3 by omega) (.int .i64 (labAt ks k j))).trans c2
      have e2 := (set_off hC1 (show off + j * 3 + 2 ≠ off + j * 3 + 1 by omega) (.int .i64 (labAt ks k j + 1))).trans d2
      have HC : Hid (wr.heap[bl]? = some (.cells C 37)) := hC
      have HR : Hid (RowFp wr 37 bl off ms fps) := hr
      have HF : Hid (fps[j]? = some f) := hf
      have HT : Hid (KidsFp wr 37 ks[j].kids f r) := hkk
      have HC2 : Hid (wr.cell? ⟨bl, off + j * 3 + 2, none⟩ = some r) := c2
      have hs := labAt_succ ks k j hlt
      have hle2 := labAt_le ks k (j + 1)
      clear hkk ht hr hf hC hC1 hhalf
      go_wp2_with fail
      refine (HI.out j hlt f r _ _ ?_ ?_ (by omega) (by omega)).mono ?_
      · have hn' := HN.out
        simp only [List.nodup_cons] at hn'
        refine HT.out.keep fun b hb => ?_
        have hbb : b ≠ bl := fun e => hn'.1 (List.mem_flatten.2 ⟨f, List.mem_of_getElem? HF.out, e ▸ hb⟩)
        exact (Below.heap_setCell _ _ _ _ hbb).trans (Below.heap_setCell _ _ _ _ hbb)
      · have hn' := HN.out
        simp only [List.nodup_cons] at hn'
        exact flatten_one hn'.2 HF.out
      rintro e w1 ⟨rfl, hk1, hb1⟩
      have HM := markS_after (ks := ks) HC.out HR.out HN.out (by omega) hlt HH.out HF.out HC2.out (by omega) hk1 hb1
      have HM' : Hid (RowFp w1 37 bl off (ms.set j (.node (labAt ks k j) (labAt ks k j + 1) (labL ks[j].kids (labAt ks k j + 2)))) fps ∧ (∃ C', w1.heap[bl]? = some (.cells C' 37)) ∧ ButL (bl :: fps.flatten) wr w1) := HM
      clear HM hk1 hb1 f0 f1 d1 d2 e2 c0 c1 c2
      go_wp2_with fail
      go_roundw
      case rel =>
        obtain ⟨m1, ⟨C', m2⟩, m3⟩ := HM'.out
        refine ⟨j + 1, _, by omega, by go_num, congrArg (Value.int .i64) (by omega), HH.out.step hlt, ⟨some ⟨bl, off, none⟩, cap, ?_, ?_, ?_, Or.inr ⟨bl, off, C', fps, rfl, m2, rfl, m1⟩⟩, HB.out.trans m3⟩
        · rw [List.length_set, hml]
        · rw [List.length_set, hml]; exact hl
        · unfold maxLen; omega
      case measure => simp [intOf]; omega
    · have hke : j = ks.length := by omega
      have HV : Hid (k + 2 * (szL ks : Int) = labAt ks k j) := by subst hke; exact (labAt_end ks k).symm
      have HD : Hid (ms = labL ks k) := by subst hke; exact HH.out.done
      clear hke hkr
      go_wp2_with fail
      go_ret
      exact ⟨ret_int HV.out.symm, HD.out ▸ HKR.out, HB.out⟩

theorem markS_any : ∀ (n : Nat) (ks : List Tr), szL ks ≤ n → MarkSSaid ks := by
  intro n
  induction n with
  | zero =>
    intro ks h
    exact markS_step ks fun i hi => absurd (szT_lt_szL ks i hi) (by omega)
  | succ n ih =>
    intro ks h
    exact markS_step ks fun i hi => ih _ (by have := szL_kids_lt ks i hi; omega)

/-- MARKING, FOR EVERY LIST OF TREES WITH DISTINCT BLOCKS -/
theorem markS_calls (ks : List Tr) : MarkSSaid ks := markS_any _ ks (Nat.le_refl _)
end Go.Proofs.Ythknbafcnobgdaa
/-
  THE LAWS' OWN MARKING OF ONE TREE (markExpr).
-/
namespace Go.Proofs.Ythknbafcnobgdaa
set_option linter.unusedVariables false
set_option linter.unusedSimpArgs false
open Go.RowKit

set_option maxHeartbeats 400000 in
theorem mark_calls (ks : List Tr) (o n : Int) (fp : List Nat) (c : Value) (k : Int) (w : World) (hk : KidsFp w 37 ks fp c) (hn : fp.Nodup) (h0 : 0 ≤ k) (h1 : k + 2 * (szL ks : Int) ≤ 1152921504606846976) :
    Calls Try.prog 19 #[.agg #[.int .i64 o, .int .i64 n, c], .int .i64 k] w fun e w' => e = .returned (.int .i64 (k + 2 * (szL ks : Int))) ∧ KidsFp w' 37 (labL ks k) fp c ∧ ButL fp w w' := by
  have HK : Hid (KidsFp w 37 ks fp c) := hk
  clear hk
  go_enter Try.func19, Try.ntmps19
  go_wp2_with fail
  refine (markS_calls ks fp c k _ ?_ hn h0 h1).mono ?_
  · exact HK.out.keep fun b hb => (box_below w _).block b (HK.out.lt b hb)
  rintro e w1 ⟨rfl, hk1, hb⟩
  have hk1' : Hid (KidsFp w1 37 (labL ks k) fp c) := hk1
  have hb' : ButL fp w w1 := (ButL.of_below (box_below w _)).trans hb
  clear hb hk1
  go_wp2_with fail
  go_ret
  exact ⟨rfl, hk1'.out, hb'⟩
end Go.Proofs.Ythknbafcnobgdaa
/-
  THE LAWS' OWN RE-READING OF MARKED TREES (heldExprS, heldExpr): over a list that bears its numbers in order, it answers the number behind; nothing that was there is changed.
-/
namespace Go.Proofs.Ythknbafcnobgdaa
set_option linter.unusedVariables false
set_option linter.unusedSimpArgs false
open Go.RowKit

/-- the contract of heldExprS at one list -/
def HeldSSaid (ks : List Tr) : Prop := ∀ (c : Value) (k : Int) (w : World), In w (labL ks k) c → 0 ≤ k → k + 2 * (szL ks : Int) ≤ 1152921504606846976 →
  Calls Try.prog 41 #[c, .int .i64 k] w fun e w' => e = .returned (.int .i64 (k + 2 * (szL ks : Int))) ∧ Below w.heap.size w w'

set_option maxHeartbeats 800000 in
theorem heldS_step (ks : List Tr) (ih : ∀ i (hi : i < ks.length), HeldSSaid (ks[i]).kids) : HeldSSaid ks := by
  intro c k w hk h0 h1
  have HI : Hid (∀ i (hi : i < ks.length), HeldSSaid (ks[i]).kids) := ih
  have HK : Hid (In w (labL ks k) c) := hk
  clear ih
  have hlen := labL_length ks k
  obtain ⟨ad, cap, rfl, hl, hm, hrow⟩ := hk
  rw [hlen] at hl ⊢
  unfold maxLen at hm
  clear hrow
  go_enter Try.func41, Try.ntmps41
  go_wp2_with fail
  go_loopw [1, 5] (fun l i wr => ∃ j : Nat, j ≤ ks.length ∧ i = .int .i64 j ∧ l = .int .i64 (labAt ks k j) ∧ Below w.heap.size w wr) (fun _ i _ => ks.length - (intOf i).toNat)
  case atStart => exact ⟨0, Nat.zero_le _, rfl, by rw [labAt_zero], Below.refl _ _⟩
  case round =>
    obtain ⟨j, hj, rfl, rfl, hb⟩ := hrel
    have hle := labAt_le ks k j
    by_cases hlt : j < ks.length
    · have hrow' := HK.out.next hb
      obtain ⟨ad', cap', he, _, _, hr⟩ := hrow'
      rw [hlen] at he
      cases he
      rcases hr with hr | ⟨bl, off, rfl, _, hr⟩
      · rw [hr] at hlen; simp at hlen; omega
      obtain ⟨p, q, r, c0, c1, c2, ht⟩ := RowOn.at (labL ks k) off j (by omega) hr
      rw [labL_get ks k j hlt] at ht
      obtain ⟨rfl, rfl, _, _, hkk⟩ := trOn_iff.1 ht
      simp only [Tr.op_node, Tr.num_node, Tr.kids_node] at *
      have HKK : Hid (In wr (labL ks[j].kids (labAt ks k j + 1 + 1)) r) := by rw [show labAt ks k j + 1 + 1 = labAt ks k j + 2 by omega]; exact hkk
      have hs := labAt_succ ks k j hlt
      have hle2 := labAt_le ks k (j + 1)
      clear hkk ht hr
      go_wp2_with fail
      refine (HI.out j hlt r _ _ HKK.out (by omega) (by omega)).mono ?_
      rintro e w1 ⟨rfl, hb1⟩
      have hb2 : Below w.heap.size w w1 := hb.trans (hb1.mono hb.size)
      clear hb1
      go_wp2_with fail
      go_roundw
      case rel => exact ⟨j + 1, by omega, by go_num, congrArg (Value.int .i64) (by omega), hb2⟩
      case measure => simp [intOf]; omega
    · have hke : j = ks.length := by omega
      have HV : Hid (k + 2 * (szL ks : Int) = labAt ks k j) := by subst hke; exact (labAt_end ks k).symm
      clear hke
      go_wp2_with fail
      go_ret
      exact ⟨ret_int HV.out.symm, hb⟩

theorem heldS_any : ∀ (n : Nat) (ks : List Tr), szL ks ≤ n → HeldSSaid ks := by
  intro n
  induction n with
  | zero =>
    intro ks h
    exact heldS_step ks fun i hi => absurd (szT_lt_szL ks i hi) (by omega)
  | succ n ih =>
    intro ks h
    exact heldS_step ks fun i hi => ih _ (by have := szL_kids_lt ks i hi; omega)

theorem heldS_calls (ks : List Tr) : HeldSSaid ks := heldS_any _ ks (Nat.le_refl _)

set_option maxHeartbeats 400000 in
theorem held_calls (ks : List Tr) (o n : Int) (c : Value) (k : Int) (w : World) (hk : In w (labL ks k) c) (h0 : 0 ≤ k) (h1 : k + 2 * (szL ks : Int) ≤ 1152921504606846976) :
    Calls Try.prog 24 #[.agg #[.int .i64 o, .int .i64 n, c], .int .i64 k] w fun e w' => e = .returned (.int .i64 (k + 2 * (szL ks : Int))) ∧ Below w.heap.size w w' := by
  have HK : Hid (In w (labL ks k) c) := hk
  clear hk
  go_enter Try.func24, Try.ntmps24
  go_wp2_with fail
  refine (heldS_calls ks c k _ ?_ h0 h1).mono ?_
  · exact HK.out.next ((Below.refl _ _).alloc (Nat.le_refl _) _)
  rintro e w1 ⟨rfl, hb⟩
  have hb' : Below w.heap.size w w1 := ((Below.refl _ _).alloc (Nat.le_refl _) _).trans (hb.mono (by simp))
  clear hb
  go_wp2_with fail
  go_ret
  exact ⟨rfl, hb'⟩
end Go.Proofs.Ythknbafcnobgdaa
/-
  THE LAWS' OWN COMPARISON (eqExpr, eqExprS): of equal trees it answers true; nothing that was there is changed.
-/
namespace Go.Proofs.Ythknbafcnobgdaa
set_option linter.unusedVariables false
set_option linter.unusedSimpArgs false
open Go.RowKit

def EqSSaid (ks : List Tr) : Prop := ∀ (c d : Value) (w : World), In w ks c → In w ks d → Calls Try.prog 39 #[c, d] w fun e w' => e = .returned (.bool true) ∧ Below w.heap.size w w'
def EqSaid (ks : List Tr) : Prop := ∀ (o n : Int) (c d : Value) (w : World), In w ks c → In w ks d →
  Calls Try.prog 18 #[.agg #[.int .i64 o, .int .i64 n, c], .agg #[.int .i64 o, .int .i64 n, d]] w fun e w' => e = .returned (.bool true) ∧ Below w.heap.size w w'

set_option maxHeartbeats 400000 in
theorem eq_of (ks : List Tr) (h : EqSSaid ks) : EqSaid ks := by
  intro o n c d w hc hd
  have HC : Hid (In w ks c) := hc
  have HD : Hid (In w ks d) := hd
  have HS : Hid (EqSSaid ks) := h
  clear h hc hd
  have t1 : (o != o) = false := by simp
  have t2 : (n != n) = false := by simp
  go_enter Try.func18, Try.ntmps18
  go_wp2_with fail
  have hb0 : ∀ o1 o2, Below w.heap.size w ((w.alloc o1).alloc o2) := fun o1 o2 => ((Below.refl _ _).alloc (Nat.le_refl _) _).alloc (by simp) _
  refine (HS.out c d _ (HC.out.next (hb0 _ _)) (HD.out.next (hb0 _ _))).mono ?_
  rintro e w1 ⟨rfl, hb⟩
  have HB : Hid (Below w.heap.size w w1) := (hb0 _ _).trans (hb.mono (by simp; omega))
  clear hb hb0
  go_wp2_with fail
  go_ret
  exact ⟨rfl, HB.out⟩

set_option maxHeartbeats 400000 in
theorem eqS_step (ks : List Tr) (ih : ∀ i (hi : i < ks.length), EqSaid (ks[i]).kids) : EqSSaid ks := by
  intro c d w hc hd
  have HI : Hid (∀ i (hi : i < ks.length), EqSaid (ks[i]).kids) := ih
  have HC : Hid (In w ks c) := hc
  have HD : Hid (In w ks d) := hd
  clear ih
  obtain ⟨ad, cap, rfl, hl, hm, -⟩ := hc
  obtain ⟨ad', cap', rfl, hl', hm', -⟩ := hd
  unfold maxLen at hm hm'
  have t1 : ((ks.length : Int) != ks.length) = false := by simp
  go_enter Try.func39, Try.ntmps39
  go_wp2_with fail
  go_loopw [5] (fun i wr => ∃ k : Nat, k ≤ ks.length ∧ i = .int .i64 k ∧ Below w.heap.size w wr) (fun i _ => ks.length - (intOf i).toNat)
  case atStart => exact ⟨0, Nat.zero_le _, rfl, Below.refl _ _⟩
  case round =>
    obtain ⟨k, hk, rfl, hb⟩ := hrel
    by_cases hlt : k < ks.length
    · have hr1 := HC.out.next hb
      have hr2 := HD.out.next hb
      obtain ⟨_, _, he, -, -, hr1⟩ := hr1
      cases he
      obtain ⟨_, _, he, -, -, hr2⟩ := hr2
      cases he
      rcases hr1 with rfl | ⟨bl, off, rfl, -, hr1⟩
      · simp at hlt
      rcases hr2 with rfl | ⟨bl', off', rfl, -, hr2⟩
      · simp at hlt
      obtain ⟨p, q, r, c0, c1, c2, ht⟩ := RowOn.at ks off k hlt hr1
      obtain ⟨rfl, rfl, -, -, hk1⟩ := trOn_iff.1 ht
      obtain ⟨p', q', r', d0, d1, d2, ht'⟩ := RowOn.at ks off' k hlt hr2
      obtain ⟨rfl, rfl, -, -, hk2⟩ := trOn_iff.1 ht'
      have HK1 : Hid (In wr ks[k].kids r) := hk1
      have HK2 : Hid (In wr ks[k].kids r') := hk2
      clear hk1 hk2 ht ht' hr1 hr2
      go_wp2_with fail
      go_region_with ((go_at_call 18; refine (HI.out k hlt _ _ r r' _ ?_ ?_).mono ?_; exact HK1.out.drew; exact HK2.out.drew; rintro e w1 ⟨rfl, hb1⟩))
      all_goals
        have hb2 : Below w.heap.size w w1 := hb.drew.trans (hb1.mono hb.drew.size)
        clear hb1
        go_wp2_with fail
        go_roundw
        case rel => exact ⟨k + 1, by omega, by go_num, hb2⟩
        case measure => simp [intOf]; omega
    · have hke : k = ks.length := by omega
      have HB : Hid (Below w.heap.size w wr) := hb
      clear hb
      clear hke
      go_wp2_with fail
      go_ret
      exact ⟨rfl, HB.out⟩

/-- THE COMPARISON, FOR EVERY LIST OF TREES. -/
theorem eqS_any : ∀ (n : Nat) (ks : List Tr), szL ks ≤ n → EqSSaid ks := by
  intro n
  induction n with
  | zero =>
    intro ks h
    exact eqS_step ks fun i hi => absurd (szT_lt_szL ks i hi) (by omega)
  | succ n ih =>
    intro ks h
    exact eqS_step ks fun i hi => eq_of _ (ih _ (by have := szL_kids_lt ks i hi; omega))

theorem eqS_calls (ks : List Tr) : EqSSaid ks := eqS_any _ ks (Nat.le_refl _)
theorem eq_calls (ks : List Tr) : EqSaid ks := eq_of ks (eqS_calls ks)
end Go.Proofs.Ythknbafcnobgdaa
/-
  THE WALK OF FnExactDecompileCode.
-/
namespace Go.Proofs.Ythknbafcnobgdaa.lawExactDecompileCode
open Go.ChangeShapes Go.WideShapes Go.ChangeAt Go.RowKit
set_option linter.unusedVariables false
set_option linter.unusedSimpArgs false

set_option maxRecDepth 100000 in
set_option maxHeartbeats 6400000 in
theorem walk (cs : List Ins) (c : Value) (w : World) (hk : InsIn w cs c) (hw : ∀ c ∈ cs, I64 c.op ∧ I64 c.num) :
    Calls Try.prog 5 #[c] w fun e w' => e = .returned (.bool true) ∧ Below w.heap.size w w' := by
  have HK : Hid (InsIn w cs c) := hk
  obtain ⟨t, ht⟩ : ∃ t, t = (decO cs 4 6).1 := ⟨_, rfl⟩
  obtain ⟨b, hb⟩ : ∃ b, b = (decO cs 4 6).2 := ⟨_, rfl⟩
  have HTS : Hid (szL t.kids ≤ 60) := by rw [ht]; exact decO_sz cs 4 6
  have HSI : Hid (cs.length ≤ 1048576 → ∀ (v1 : Value) (W : World), InsIn W cs v1 → Calls Try.prog 23 #[v1] W fun en w' => ∃ v, en = .returned (.tuple #[.agg #[.int .i64 t.op, .int .i64 t.num, v], .bool b]) ∧ Fresh w' W.heap.size t.kids v ∧ Below W.heap.size W w') := fun hl v1 W h1 => (implDec_calls cs v1 W h1 hl hw).mono fun en w' h => by
    obtain ⟨v, e1, e2, -, -, e3⟩ := h
    rw [ht, hb]
    exact ⟨v, e1, e2, e3⟩
  have HSS : Hid (cs.length ≤ 1048576 → ∀ (v1 : Value) (W : World), InsIn W cs v1 → Calls Try.prog 22 #[v1] W fun en w' => ∃ v, en = .returned (.tuple #[.agg #[.int .i64 t.op, .int .i64 t.num, v], .bool b]) ∧ In w' t.kids v ∧ Below W.heap.size W w') := fun hl v1 W h1 => (specDec_calls cs v1 W h1 hl hw).mono fun en w' h => by
    obtain ⟨v, e1, e2, e3⟩ := h
    rw [ht, hb]
    exact ⟨v, e1, e2, e3⟩
  have hrg := szI_range cs 1048576 (by omega)
  clear hk hw ht hb
  go_enter Try.func5, Try.ntmps5
  go_wp2_with fail
  refine (szCode_calls cs c _ _ HK.out (by omega) (by omega)).mono ?_
  rintro en w1 ⟨rfl, hb1⟩
  have HB_w1 : Hid (Below w.heap.size w w1) := hb1
  clear hb1
  by_cases hneg : szI cs 1048576 < 0
  · go_wp2_with fail
    go_ret
    exact ⟨rfl, HB_w1.out⟩
  have HZ : Hid (cs.length ≤ 1048576) := by unfold szI at hneg; unfold Hid; split at hneg <;> omega
  generalize szI cs 1048576 = left at *
  clear hrg
  go_wp2_with fail
  -- the model's answer
  refine (toCode_calls cs c _ (HK.out.next HB_w1.out) HZ.out).mono ?_
  rintro en w2 ⟨v2, rfl, hv2, hb2⟩
  have HB_w2 : Hid (Below w.heap.size w w2) := HB_w1.out.trans (hb2.mono HB_w1.out.size)
  have V2_w2 : Hid (InsIn w2 cs v2) := hv2.inn
  clear hv2 hb2
  go_wp2_with fail
  refine (HSS.out HZ.out _ _ V2_w2.out).mono ?_
  rintro en w3 ⟨v3, rfl, hv3, hb3⟩
  have HB_w3 : Hid (Below w.heap.size w w3) := HB_w2.out.trans (hb3.mono HB_w2.out.size)
  have W0_w3 : Hid (KidsOn w3 (Lt w3.heap.size) t.kids v3) := hv3
  have LE_w3 : Hid (w3.heap.size ≤ w3.heap.size) := Nat.le_refl _
  obtain ⟨ad3, cap3, rfl, -, -, -⟩ := hv3
  clear hb3
  go_wp2_with fail
  obtain ⟨w4, hw4⟩ : ∃ w4 : World, w4 = w3.alloc (.cells #[.int .i64 t.op, .int .i64 t.num, .slice ad3 t.kids.length cap3] 37) := ⟨_, rfl⟩
  rw [← hw4]
  have hbw4 : Below w3.heap.size w3 w4 := by rw [hw4]; exact box_below _ _
  have W0_w4 : Hid (KidsOn w4 (Lt w3.heap.size) t.kids (.slice ad3 t.kids.length cap3)) := W0_w3.out.mono (fun _ hk => hk) fun k hk => hbw4.block k (Nat.lt_of_lt_of_le hk LE_w3.out)
  have LE_w4 : Hid (w3.heap.size ≤ w4.heap.size) := Nat.le_trans LE_w3.out hbw4.size
  have HB_w4 : Hid (Below w.heap.size w w4) := HB_w3.out.trans (hbw4.mono HB_w3.out.size)
  have BW_w4 : Hid (w4.heap[w3.heap.size]? = some (.cells #[.int .i64 t.op, .int .i64 t.num, (.slice ad3 t.kids.length cap3)] 37)) := by rw [hw4]; exact Deep.blk_alloc_new _ _
  have S4 : Hid (w4.heap.size = w3.heap.size + 1) := by rw [hw4]; exact Deep.nblk_alloc _ _
  have S3 : Hid (w.heap.size ≤ w3.heap.size) := HB_w3.out.size
  clear hw4 hbw4
  -- the program's argument
  refine (toCode_calls cs c _ (HK.out.next HB_w4.out) HZ.out).mono ?_
  rintro en w5 ⟨v5, rfl, hv5, hb5⟩
  have W0_w5 : Hid (KidsOn w5 (Lt w3.heap.size) t.kids (.slice ad3 t.kids.length cap3)) := W0_w4.out.mono (fun _ hk => hk) fun k hk => hb5.block k (Nat.lt_of_lt_of_le hk LE_w4.out)
  have LE_w5 : Hid (w3.heap.size ≤ w5.heap.size) := Nat.le_trans LE_w4.out hb5.size
  have BW_w5 : Hid (w5.heap[w3.heap.size]? = some (.cells #[.int .i64 t.op, .int .i64 t.num, (.slice ad3 t.kids.length cap3)] 37)) := (hb5.block _ (cellsOf_lt BW_w4.out)).trans BW_w4.out
  have HB_w5 : Hid (Below w.heap.size w w5) := HB_w4.out.trans (hb5.mono HB_w4.out.size)
  obtain ⟨f1, hif, hlo⟩ := ins_fp hv5
  have S5 : Hid (w4.heap.size ≤ w5.heap.size) := hb5.size
  have HF_f1 : Hid (True ∧ ∀ k ∈ f1, w4.heap.size ≤ k ∧ k < w5.heap.size) := ⟨trivial, hlo⟩
  have V5_w5 : Hid (InsIn w5 cs v5) := hv5.inn
  have LF_w5 : Hid (w5.heap.size ≤ w5.heap.size) := Nat.le_refl _
  have CS_w5 : Hid (InsFp w5 f1 cs v5) := hif
  clear hv5 hb5 hif hlo
  go_wp2_with fail
  -- the program's answer
  refine (HSI.out HZ.out _ _ V5_w5.out).mono ?_
  rintro en w6 ⟨v6, rfl, hv6, hb6⟩
  obtain ⟨f3, hkf, hnd, hlo⟩ := hv6
  have S6 : Hid (w5.heap.size ≤ w6.heap.size) := hb6.size
  have W0_w6 : Hid (KidsOn w6 (Lt w3.heap.size) t.kids (.slice ad3 t.kids.length cap3)) := W0_w5.out.mono (fun _ hk => hk) fun k hk => hb6.block k (Nat.lt_of_lt_of_le hk LE_w5.out)
  have LE_w6 : Hid (w3.heap.size ≤ w6.heap.size) := Nat.le_trans LE_w5.out hb6.size
  have BW_w6 : Hid (w6.heap[w3.heap.size]? = some (.cells #[.int .i64 t.op, .int .i64 t.num, (.slice ad3 t.kids.length cap3)] 37)) := (hb6.block _ (cellsOf_lt BW_w5.out)).trans BW_w5.out
  have V5_w6 : Hid (InsIn w6 cs v5) := V5_w5.out.next hb6
  have LF_w6 : Hid (w5.heap.size ≤ w6.heap.size) := Nat.le_trans LF_w5.out hb6.size
  have CS_w6 : Hid (InsFp w6 f1 cs v5) := InsFp.keep CS_w5.out fun bq hbq => hb6.block bq (Nat.lt_of_lt_of_le (HF_f1.out.2 bq hbq).2 LF_w5.out)
  have HB_w6 : Hid (Below w.heap.size w w6) := HB_w5.out.trans (hb6.mono HB_w5.out.size)
  have HF_f3 : Hid (f3.Nodup ∧ ∀ k ∈ f3, w5.heap.size ≤ k ∧ k < w6.heap.size) := ⟨hnd, fun k hk => ⟨hlo k hk, hkf.lt k hk⟩⟩
  have HKF : Hid _ := hkf
  obtain ⟨ad6, cap6, rfl, -, -, -⟩ := hkf
  have K3_w6 : Hid (KidsFp w6 37 t.kids f3 (.slice ad6 t.kids.length cap6)) := HKF.out
  clear HKF hnd hlo hb6
  have bw0 := cell_of_blk BW_w6.out 0 _ rfl
  have bw1 := cell_of_blk BW_w6.out 1 _ rfl
  have bw2 := cell_of_blk BW_w6.out 2 _ rfl
  have bwz := cellsOf_lt BW_w6.out
  go_wp2_with fail
  obtain ⟨w7, hw7⟩ : ∃ w7 : World, w7 = w6.alloc (.cells #[.int .i64 t.op, .int .i64 t.num, .slice ad6 t.kids.length cap6] 37) := ⟨_, rfl⟩
  rw [← hw7]
  have hbw7 : Below w6.heap.size w6 w7 := by rw [hw7]; exact box_below _ _
  clear bw0 bw1 bw2 bwz
  have W0_w7 : Hid (KidsOn w7 (Lt w3.heap.size) t.kids (.slice ad3 t.kids.length cap3)) := W0_w6.out.mono (fun _ hk => hk) fun k hk => hbw7.block k (Nat.lt_of_lt_of_le hk LE_w6.out)
  have LE_w7 : Hid (w3.heap.size ≤ w7.heap.size) := Nat.le_trans LE_w6.out hbw7.size
  have BW_w7 : Hid (w7.heap[w3.heap.size]? = some (.cells #[.int .i64 t.op, .int .i64 t.num, (.slice ad3 t.kids.length cap3)] 37)) := (hbw7.block _ (cellsOf_lt BW_w6.out)).trans BW_w6.out
  have V5_w7 : Hid (InsIn w7 cs v5) := V5_w6.out.next hbw7
  have LF_w7 : Hid (w5.heap.size ≤ w7.heap.size) := Nat.le_trans LF_w6.out hbw7.size
  have CS_w7 : Hid (InsFp w7 f1 cs v5) := InsFp.keep CS_w6.out fun bq hbq => hbw7.block bq (Nat.lt_of_lt_of_le (HF_f1.out.2 bq hbq).2 LF_w6.out)
  have K3_w7 : Hid (KidsFp w7 37 t.kids f3 (.slice ad6 t.kids.length cap6)) := K3_w6.out.keep fun k hk => hbw7.block k (K3_w6.out.lt k hk)
  have HB_w7 : Hid (Below w.heap.size w w7) := HB_w6.out.trans (hbw7.mono HB_w6.out.size)
  have BG_w7 : Hid (w7.heap[w6.heap.size]? = some (.cells #[.int .i64 t.op, .int .i64 t.num, (.slice ad6 t.kids.length cap6)] 37)) := by rw [hw7]; exact Deep.blk_alloc_new _ _
  clear hw7 hbw7
  have tb : (b != b) = false := by simp
  refine (eq_calls t.kids _ _ _ _ _ (K3_w7.out.on fun k hk => K3_w7.out.lt k hk) (W0_w7.out.mono (fun k hk => Nat.lt_of_lt_of_le hk LE_w7.out) fun _ _ => rfl)).mono ?_
  rintro en w8 ⟨rfl, hb8⟩
  have W0_w8 : Hid (KidsOn w8 (Lt w3.heap.size) t.kids (.slice ad3 t.kids.length cap3)) := W0_w7.out.mono (fun _ hk => hk) fun k hk => hb8.block k (Nat.lt_of_lt_of_le hk LE_w7.out)
  have LE_w8 : Hid (w3.heap.size ≤ w8.heap.size) := Nat.le_trans LE_w7.out hb8.size
  have BW_w8 : Hid (w8.heap[w3.heap.size]? = some (.cells #[.int .i64 t.op, .int .i64 t.num, (.slice ad3 t.kids.length cap3)] 37)) := (hb8.block _ (cellsOf_lt BW_w7.out)).trans BW_w7.out
  have V5_w8 : Hid (InsIn w8 cs v5) := V5_w7.out.next hb8
  have LF_w8 : Hid (w5.heap.size ≤ w8.heap.size) := Nat.le_trans LF_w7.out hb8.size
  have CS_w8 : Hid (InsFp w8 f1 cs v5) := InsFp.keep CS_w7.out fun bq hbq => hb8.block bq (Nat.lt_of_lt_of_le (HF_f1.out.2 bq hbq).2 LF_w7.out)
  have K3_w8 : Hid (KidsFp w8 37 t.kids f3 (.slice ad6 t.kids.length cap6)) := K3_w7.out.keep fun k hk => hb8.block k (K3_w7.out.lt k hk)
  have BG_w8 : Hid (w8.heap[w6.heap.size]? = some (.cells #[.int .i64 t.op, .int .i64 t.num, (.slice ad6 t.kids.length cap6)] 37)) := (hb8.block _ (cellsOf_lt BG_w7.out)).trans BG_w7.out
  have HB_w8 : Hid (Below w.heap.size w w8) := HB_w7.out.trans (hb8.mono HB_w7.out.size)
  clear hb8
  go_wp2_with fail
  refine (toCode_calls cs c _ (HK.out.next HB_w8.out) HZ.out).mono ?_
  rintro en w9 ⟨v9, rfl, hv9, hb9⟩
  have W0_w9 : Hid (KidsOn w9 (Lt w3.heap.size) t.kids (.slice ad3 t.kids.length cap3)) := W0_w8.out.mono (fun _ hk => hk) fun k hk => hb9.block k (Nat.lt_of_lt_of_le hk LE_w8.out)
  have LE_w9 : Hid (w3.heap.size ≤ w9.heap.size) := Nat.le_trans LE_w8.out hb9.size
  have BW_w9 : Hid (w9.heap[w3.heap.size]? = some (.cells #[.int .i64 t.op, .int .i64 t.num, (.slice ad3 t.kids.length cap3)] 37)) := (hb9.block _ (cellsOf_lt BW_w8.out)).trans BW_w8.out
  have V5_w9 : Hid (InsIn w9 cs v5) := V5_w8.out.next hb9
  have LF_w9 : Hid (w5.heap.size ≤ w9.heap.size) := Nat.le_trans LF_w8.out hb9.size
  have CS_w9 : Hid (InsFp w9 f1 cs v5) := InsFp.keep CS_w8.out fun bq hbq => hb9.block bq (Nat.lt_of_lt_of_le (HF_f1.out.2 bq hbq).2 LF_w8.out)
  have K3_w9 : Hid (KidsFp w9 37 t.kids f3 (.slice ad6 t.kids.length cap6)) := K3_w8.out.keep fun k hk => hb9.block k (K3_w8.out.lt k hk)
  have BG_w9 : Hid (w9.heap[w6.heap.size]? = some (.cells #[.int .i64 t.op, .int .i64 t.num, (.slice ad6 t.kids.length cap6)] 37)) := (hb9.block _ (cellsOf_lt BG_w8.out)).trans BG_w8.out
  have HB_w9 : Hid (Below w.heap.size w w9) := HB_w8.out.trans (hb9.mono HB_w8.out.size)
  have HV9 : Hid (InsIn w9 cs v9) := hv9.inn
  clear hv9 hb9
  go_wp2_with fail
  refine (eqCode_calls cs v5 v9 _ V5_w9.out HV9.out).mono ?_
  rintro en w10 ⟨rfl, hb10⟩
  have W0_w10 : Hid (KidsOn w10 (Lt w3.heap.size) t.kids (.slice ad3 t.kids.length cap3)) := W0_w9.out.mono (fun _ hk => hk) fun k hk => hb10.block k (Nat.lt_of_lt_of_le hk LE_w9.out)
  have LE_w10 : Hid (w3.heap.size ≤ w10.heap.size) := Nat.le_trans LE_w9.out hb10.size
  have BW_w10 : Hid (w10.heap[w3.heap.size]? = some (.cells #[.int .i64 t.op, .int .i64 t.num, (.slice ad3 t.kids.length cap3)] 37)) := (hb10.block _ (cellsOf_lt BW_w9.out)).trans BW_w9.out
  have V5_w10 : Hid (InsIn w10 cs v5) := V5_w9.out.next hb10
  have LF_w10 : Hid (w5.heap.size ≤ w10.heap.size) := Nat.le_trans LF_w9.out hb10.size
  have CS_w10 : Hid (InsFp w10 f1 cs v5) := InsFp.keep CS_w9.out fun bq hbq => hb10.block bq (Nat.lt_of_lt_of_le (HF_f1.out.2 bq hbq).2 LF_w9.out)
  have K3_w10 : Hid (KidsFp w10 37 t.kids f3 (.slice ad6 t.kids.length cap6)) := K3_w9.out.keep fun k hk => hb10.block k (K3_w9.out.lt k hk)
  have BG_w10 : Hid (w10.heap[w6.heap.size]? = some (.cells #[.int .i64 t.op, .int .i64 t.num, (.slice ad6 t.kids.length cap6)] 37)) := (hb10.block _ (cellsOf_lt BG_w9.out)).trans BG_w9.out
  have HB_w10 : Hid (Below w.heap.size w w10) := HB_w9.out.trans (hb10.mono HB_w9.out.size)
  clear hb10
  go_wp2_with fail
  -- the argument is marked
  refine (markFp_calls cs f1 v5 1 w10 CS_w10.out (by omega) (by have := HZ.out; omega)).mono ?_
  rintro en w11 ⟨rfl, -, hb11⟩
  have W0_w11 : Hid (KidsOn w11 (Lt w3.heap.size) t.kids (.slice ad3 t.kids.length cap3)) := W0_w10.out.mono (fun _ hk => hk) fun k (hk : k < _) => hb11.block k (Nat.lt_of_lt_of_le hk LE_w10.out) (fun h => by have := (HF_f1.out.2 _ h); have := S3.out; have := S4.out; have := S5.out; have := S6.out; omega)
  have LE_w11 : Hid (w3.heap.size ≤ w11.heap.size) := Nat.le_trans LE_w10.out hb11.size
  have BW_w11 : Hid (w11.heap[w3.heap.size]? = some (.cells #[.int .i64 t.op, .int .i64 t.num, (.slice ad3 t.kids.length cap3)] 37)) := (hb11.block _ (cellsOf_lt BW_w10.out) (fun h => by have := (HF_f1.out.2 _ h); have := S3.out; have := S4.out; have := S5.out; have := S6.out; omega)).trans BW_w10.out
  have LF_w11 : Hid (w5.heap.size ≤ w11.heap.size) := Nat.le_trans LF_w10.out hb11.size
  have K3_w11 : Hid (KidsFp w11 37 t.kids f3 (.slice ad6 t.kids.length cap6)) := K3_w10.out.keep fun k hk => hb11.block k (K3_w10.out.lt k hk) (fun h => by have := (HF_f1.out.2 _ h); have := (HF_f3.out.2 _ hk); have := S3.out; have := S4.out; have := S5.out; have := S6.out; omega)
  have BG_w11 : Hid (w11.heap[w6.heap.size]? = some (.cells #[.int .i64 t.op, .int .i64 t.num, (.slice ad6 t.kids.length cap6)] 37)) := (hb11.block _ (cellsOf_lt BG_w10.out) (fun h => by have := (HF_f1.out.2 _ h); have := S3.out; have := S4.out; have := S5.out; have := S6.out; omega)).trans BG_w10.out
  have HB_w11 : Hid (Below w.heap.size w w11) := HB_w10.out.trans (hb11.below (fun k h => by have := (HF_f1.out.2 _ h); have := S3.out; have := S4.out; have := S5.out; have := S6.out; omega) HB_w10.out.size)
  clear hb11
  obtain ⟨kk, hkk⟩ : ∃ kk : Int, kk = 1 + 2 * (cs.length : Int) := ⟨_, rfl⟩
  rw [← hkk]
  have hk0 : 0 ≤ kk := by omega
  clear hkk
  have bg0 := cell_of_blk BG_w11.out 0 _ rfl
  have bg1 := cell_of_blk BG_w11.out 1 _ rfl
  have bg2 := cell_of_blk BG_w11.out 2 _ rfl
  have bgz := cellsOf_lt BG_w11.out
  have bw0 := cell_of_blk BW_w11.out 0 _ rfl
  have bw1 := cell_of_blk BW_w11.out 1 _ rfl
  have bw2 := cell_of_blk BW_w11.out 2 _ rfl
  have bwz := cellsOf_lt BW_w11.out
  go_wp2_with fail
  refine (eq_calls t.kids _ _ _ _ _ (K3_w11.out.on fun k hk => K3_w11.out.lt k hk) (W0_w11.out.mono (fun k hk => Nat.lt_of_lt_of_le hk LE_w11.out) fun _ _ => rfl)).mono ?_
  rintro en w12 ⟨rfl, hb12⟩
  clear bg0 bg1 bg2 bgz bw0 bw1 bw2 bwz
  have W0_w12 : Hid (KidsOn w12 (Lt w3.heap.size) t.kids (.slice ad3 t.kids.length cap3)) := W0_w11.out.mono (fun _ hk => hk) fun k hk => hb12.block k (Nat.lt_of_lt_of_le hk LE_w11.out)
  have LE_w12 : Hid (w3.heap.size ≤ w12.heap.size) := Nat.le_trans LE_w11.out hb12.size
  have BW_w12 : Hid (w12.heap[w3.heap.size]? = some (.cells #[.int .i64 t.op, .int .i64 t.num, (.slice ad3 t.kids.length cap3)] 37)) := (hb12.block _ (cellsOf_lt BW_w11.out)).trans BW_w11.out
  have LF_w12 : Hid (w5.heap.size ≤ w12.heap.size) := Nat.le_trans LF_w11.out hb12.size
  have K3_w12 : Hid (KidsFp w12 37 t.kids f3 (.slice ad6 t.kids.length cap6)) := K3_w11.out.keep fun k hk => hb12.block k (K3_w11.out.lt k hk)
  have BG_w12 : Hid (w12.heap[w6.heap.size]? = some (.cells #[.int .i64 t.op, .int .i64 t.num, (.slice ad6 t.kids.length cap6)] 37)) := (hb12.block _ (cellsOf_lt BG_w11.out)).trans BG_w11.out
  have HB_w12 : Hid (Below w.heap.size w w12) := HB_w11.out.trans (hb12.mono HB_w11.out.size)
  clear hb12
  have bg0 := cell_of_blk BG_w12.out 0 _ rfl
  have bg1 := cell_of_blk BG_w12.out 1 _ rfl
  have bg2 := cell_of_blk BG_w12.out 2 _ rfl
  have bgz := cellsOf_lt BG_w12.out
  go_wp2_with fail
  -- the answer is marked
  refine (mark_calls t.kids _ _ f3 _ 1 w12 K3_w12.out HF_f3.out.1 (by omega) (by have := HTS.out; omega)).mono ?_
  rintro en w13 ⟨rfl, hk13, hb13⟩
  clear bg0 bg1 bg2 bgz
  have W0_w13 : Hid (KidsOn w13 (Lt w3.heap.size) t.kids (.slice ad3 t.kids.length cap3)) := W0_w12.out.mono (fun _ hk => hk) fun k (hk : k < _) => hb13.block k (Nat.lt_of_lt_of_le hk LE_w12.out) (fun h => by have := (HF_f3.out.2 _ h); have := S3.out; have := S4.out; have := S5.out; have := S6.out; omega)
  have LE_w13 : Hid (w3.heap.size ≤ w13.heap.size) := Nat.le_trans LE_w12.out hb13.size
  have BW_w13 : Hid (w13.heap[w3.heap.size]? = some (.cells #[.int .i64 t.op, .int .i64 t.num, (.slice ad3 t.kids.length cap3)] 37)) := (hb13.block _ (cellsOf_lt BW_w12.out) (fun h => by have := (HF_f3.out.2 _ h); have := S3.out; have := S4.out; have := S5.out; have := S6.out; omega)).trans BW_w12.out
  have LF_w13 : Hid (w5.heap.size ≤ w13.heap.size) := Nat.le_trans LF_w12.out hb13.size
  have BG_w13 : Hid (w13.heap[w6.heap.size]? = some (.cells #[.int .i64 t.op, .int .i64 t.num, (.slice ad6 t.kids.length cap6)] 37)) := (hb13.block _ (cellsOf_lt BG_w12.out) (fun h => by have := (HF_f3.out.2 _ h); have := S3.out; have := S4.out; have := S5.out; have := S6.out; omega)).trans BG_w12.out
  have HB_w13 : Hid (Below w.heap.size w w13) := HB_w12.out.trans (hb13.below (fun k h => by have := (HF_f3.out.2 _ h); have := S3.out; have := S4.out; have := S5.out; have := S6.out; omega) HB_w12.out.size)
  have K4_w13 : Hid (KidsFp w13 37 (labL t.kids 1) f3 (.slice ad6 t.kids.length cap6)) := hk13
  clear hb13 hk13
  obtain ⟨mm, hmm⟩ : ∃ mm : Int, mm = 1 + 2 * (szL t.kids : Int) := ⟨_, rfl⟩
  have HM : Hid (mm = 1 + 2 * (szL t.kids : Int)) := hmm
  have hm0 : 0 ≤ mm := by omega
  rw [← hmm]
  clear hmm
  have bg0 := cell_of_blk BG_w13.out 0 _ rfl
  have bg1 := cell_of_blk BG_w13.out 1 _ rfl
  have bg2 := cell_of_blk BG_w13.out 2 _ rfl
  have bgz := cellsOf_lt BG_w13.out
  go_wp2_with fail
  refine (held_calls t.kids _ _ _ 1 w13 (K4_w13.out.on fun k hk => K4_w13.out.lt k hk) (by omega) (by have := HTS.out; omega)).mono ?_
  rintro en w14 ⟨rfl, hb14⟩
  rw [← HM.out]
  clear bg0 bg1 bg2 bgz
  have W0_w14 : Hid (KidsOn w14 (Lt w3.heap.size) t.kids (.slice ad3 t.kids.length cap3)) := W0_w13.out.mono (fun _ hk => hk) fun k hk => hb14.block k (Nat.lt_of_lt_of_le hk LE_w13.out)
  have LE_w14 : Hid (w3.heap.size ≤ w14.heap.size) := Nat.le_trans LE_w13.out hb14.size
  have BW_w14 : Hid (w14.heap[w3.heap.size]? = some (.cells #[.int .i64 t.op, .int .i64 t.num, (.slice ad3 t.kids.length cap3)] 37)) := (hb14.block _ (cellsOf_lt BW_w13.out)).trans BW_w13.out
  have LF_w14 : Hid (w5.heap.size ≤ w14.heap.size) := Nat.le_trans LF_w13.out hb14.size
  have BG_w14 : Hid (w14.heap[w6.heap.size]? = some (.cells #[.int .i64 t.op, .int .i64 t.num, (.slice ad6 t.kids.length cap6)] 37)) := (hb14.block _ (cellsOf_lt BG_w13.out)).trans BG_w13.out
  have K4_w14 : Hid (KidsFp w14 37 (labL t.kids 1) f3 (.slice ad6 t.kids.length cap6)) := K4_w13.out.keep fun k hk => hb14.block k (K4_w13.out.lt k hk)
  have HB_w14 : Hid (Below w.heap.size w w14) := HB_w13.out.trans (hb14.mono HB_w13.out.size)
  clear hb14
  have tm : (mm != mm) = false := by simp
  go_wp2_with fail
  -- called once more
  refine (toCode_calls cs c _ (HK.out.next HB_w14.out) HZ.out).mono ?_
  rintro en w15 ⟨v15, rfl, hv15, hb15⟩
  have W0_w15 : Hid (KidsOn w15 (Lt w3.heap.size) t.kids (.slice ad3 t.kids.length cap3)) := W0_w14.out.mono (fun _ hk => hk) fun k hk => hb15.block k (Nat.lt_of_lt_of_le hk LE_w14.out)
  have LE_w15 : Hid (w3.heap.size ≤ w15.heap.size) := Nat.le_trans LE_w14.out hb15.size
  have BW_w15 : Hid (w15.heap[w3.heap.size]? = some (.cells #[.int .i64 t.op, .int .i64 t.num, (.slice ad3 t.kids.length cap3)] 37)) := (hb15.block _ (cellsOf_lt BW_w14.out)).trans BW_w14.out
  have LF_w15 : Hid (w5.heap.size ≤ w15.heap.size) := Nat.le_trans LF_w14.out hb15.size
  have BG_w15 : Hid (w15.heap[w6.heap.size]? = some (.cells #[.int .i64 t.op, .int .i64 t.num, (.slice ad6 t.kids.length cap6)] 37)) := (hb15.block _ (cellsOf_lt BG_w14.out)).trans BG_w14.out
  have K4_w15 : Hid (KidsFp w15 37 (labL t.kids 1) f3 (.slice ad6 t.kids.length cap6)) := K4_w14.out.keep fun k hk => hb15.block k (K4_w14.out.lt k hk)
  have HB_w15 : Hid (Below w.heap.size w w15) := HB_w14.out.trans (hb15.mono HB_w14.out.size)
  have V15_w15 : Hid (InsIn w15 cs v15) := hv15.inn
  clear hv15 hb15
  go_wp2_with fail
  refine (HSI.out HZ.out _ _ V15_w15.out).mono ?_
  rintro en w16 ⟨v16, rfl, hv16, hb16⟩
  have W0_w16 : Hid (KidsOn w16 (Lt w3.heap.size) t.kids (.slice ad3 t.kids.length cap3)) := W0_w15.out.mono (fun _ hk => hk) fun k hk => hb16.block k (Nat.lt_of_lt_of_le hk LE_w15.out)
  have LE_w16 : Hid (w3.heap.size ≤ w16.heap.size) := Nat.le_trans LE_w15.out hb16.size
  have BW_w16 : Hid (w16.heap[w3.heap.size]? = some (.cells #[.int .i64 t.op, .int .i64 t.num, (.slice ad3 t.kids.length cap3)] 37)) := (hb16.block _ (cellsOf_lt BW_w15.out)).trans BW_w15.out
  have LF_w16 : Hid (w5.heap.size ≤ w16.heap.size) := Nat.le_trans LF_w15.out hb16.size
  have BG_w16 : Hid (w16.heap[w6.heap.size]? = some (.cells #[.int .i64 t.op, .int .i64 t.num, (.slice ad6 t.kids.length cap6)] 37)) := (hb16.block _ (cellsOf_lt BG_w15.out)).trans BG_w15.out
  have K4_w16 : Hid (KidsFp w16 37 (labL t.kids 1) f3 (.slice ad6 t.kids.length cap6)) := K4_w15.out.keep fun k hk => hb16.block k (K4_w15.out.lt k hk)
  have HB_w16 : Hid (Below w.heap.size w w16) := HB_w15.out.trans (hb16.mono HB_w15.out.size)
  have V16_w16 : Hid (In w16 t.kids v16) := hv16.on.btw_in
  obtain ⟨ad16, cap16, rfl, -, -, -⟩ := hv16.on.btw_in
  clear hv16 hb16
  have bw0 := cell_of_blk BW_w16.out 0 _ rfl
  have bw1 := cell_of_blk BW_w16.out 1 _ rfl
  have bw2 := cell_of_blk BW_w16.out 2 _ rfl
  have bwz := cellsOf_lt BW_w16.out
  go_wp2_with fail
  obtain ⟨w17, hw17⟩ : ∃ w17 : World, w17 = w16.alloc (.cells #[.int .i64 t.op, .int .i64 t.num, .slice ad16 t.kids.length cap16] 37) := ⟨_, rfl⟩
  rw [← hw17]
  have hbw17 : Below w16.heap.size w16 w17 := by rw [hw17]; exact box_below _ _
  clear bw0 bw1 bw2 bwz
  have W0_w17 : Hid (KidsOn w17 (Lt w3.heap.size) t.kids (.slice ad3 t.kids.length cap3)) := W0_w16.out.mono (fun _ hk => hk) fun k hk => hbw17.block k (Nat.lt_of_lt_of_le hk LE_w16.out)
  have LE_w17 : Hid (w3.heap.size ≤ w17.heap.size) := Nat.le_trans LE_w16.out hbw17.size
  have BW_w17 : Hid (w17.heap[w3.heap.size]? = some (.cells #[.int .i64 t.op, .int .i64 t.num, (.slice ad3 t.kids.length cap3)] 37)) := (hbw17.block _ (cellsOf_lt BW_w16.out)).trans BW_w16.out
  have LF_w17 : Hid (w5.heap.size ≤ w17.heap.size) := Nat.le_trans LF_w16.out hbw17.size
  have BG_w17 : Hid (w17.heap[w6.heap.size]? = some (.cells #[.int .i64 t.op, .int .i64 t.num, (.slice ad6 t.kids.length cap6)] 37)) := (hbw17.block _ (cellsOf_lt BG_w16.out)).trans BG_w16.out
  have K4_w17 : Hid (KidsFp w17 37 (labL t.kids 1) f3 (.slice ad6 t.kids.length cap6)) := K4_w16.out.keep fun k hk => hbw17.block k (K4_w16.out.lt k hk)
  have V16_w17 : Hid (In w17 t.kids (.slice ad16 t.kids.length cap16)) := V16_w16.out.next hbw17
  have HB_w17 : Hid (Below w.heap.size w w17) := HB_w16.out.trans (hbw17.mono HB_w16.out.size)
  clear hw17 hbw17
  refine (eq_calls t.kids _ _ _ _ _ V16_w17.out (W0_w17.out.mono (fun k hk => Nat.lt_of_lt_of_le hk LE_w17.out) fun _ _ => rfl)).mono ?_
  rintro en w18 ⟨rfl, hb18⟩
  have W0_w18 : Hid (KidsOn w18 (Lt w3.heap.size) t.kids (.slice ad3 t.kids.length cap3)) := W0_w17.out.mono (fun _ hk => hk) fun k hk => hb18.block k (Nat.lt_of_lt_of_le hk LE_w17.out)
  have LE_w18 : Hid (w3.heap.size ≤ w18.heap.size) := Nat.le_trans LE_w17.out hb18.size
  have BW_w18 : Hid (w18.heap[w3.heap.size]? = some (.cells #[.int .i64 t.op, .int .i64 t.num, (.slice ad3 t.kids.length cap3)] 37)) := (hb18.block _ (cellsOf_lt BW_w17.out)).trans BW_w17.out
  have LF_w18 : Hid (w5.heap.size ≤ w18.heap.size) := Nat.le_trans LF_w17.out hb18.size
  have BG_w18 : Hid (w18.heap[w6.heap.size]? = some (.cells #[.int .i64 t.op, .int .i64 t.num, (.slice ad6 t.kids.length cap6)] 37)) := (hb18.block _ (cellsOf_lt BG_w17.out)).trans BG_w17.out
  have K4_w18 : Hid (KidsFp w18 37 (labL t.kids 1) f3 (.slice ad6 t.kids.length cap6)) := K4_w17.out.keep fun k hk => hb18.block k (K4_w17.out.lt k hk)
  have V16_w18 : Hid (In w18 t.kids (.slice ad16 t.kids.length cap16)) := V16_w17.out.next hb18
  have HB_w18 : Hid (Below w.heap.size w w18) := HB_w17.out.trans (hb18.mono HB_w17.out.size)
  clear hb18
  have bg0 := cell_of_blk BG_w18.out 0 _ rfl
  have bg1 := cell_of_blk BG_w18.out 1 _ rfl
  have bg2 := cell_of_blk BG_w18.out 2 _ rfl
  have bgz := cellsOf_lt BG_w18.out
  go_wp2_with fail
  refine (held_calls t.kids _ _ _ 1 w18 (K4_w18.out.on fun k hk => K4_w18.out.lt k hk) (by omega) (by have := HTS.out; omega)).mono ?_
  rintro en w19 ⟨rfl, hb19⟩
  rw [← HM.out]
  clear bg0 bg1 bg2 bgz
  have HB_w19 : Hid (Below w.heap.size w w19) := HB_w18.out.trans (hb19.mono HB_w18.out.size)
  clear hb19
  go_wp2_with fail
  go_ret
  exact ⟨rfl, HB_w19.out⟩
end Go.Proofs.Ythknbafcnobgdaa.lawExactDecompileCode
