/-
  THE WALK OF FnExactSpineOf.
-/
import Derived.Test.YthlblgibgfledaaSpecSpine
import Derived.Test.YthlblgibgfledaaImplSpine
import Derived.Test.YthlblgibgfledaaCRow
import Derived.Test.YthlblgibgfledaaInts
namespace Go.Proofs.Ythlblgibgfledaa.lawExactSpineOf
open Go.RowKit
set_option linter.unusedVariables false
set_option linter.unusedSimpArgs false

theorem spV_len (g : List Ce) (root : Int) : (spL (spV g root)).length ≤ g.length := by
  unfold spV
  split
  · rename_i h
    cases hs : spine g root.toNat with
    | none => simp [spL]
    | some x =>
      obtain ⟨f, l⟩ := x
      exact (spine_ok h.1 (by omega) hs).2.2.2.2
  · simp [spL]
theorem szC_le {g : List Ce} {left : Int} (h : ¬ szC g left < 0) : (g.length : Int) + sumK g ≤ left := by unfold szC at h; split at h <;> omega
/-- numbers below a block -/
abbrev ILow (w : World) (hi : Nat) (xs : List Int) (v : Value) : Prop := IntsOn w (Lt hi) xs v
theorem low_next {w w' : World} {hi B : Nat} {xs : List Int} {v : Value} (h : ILow w hi xs v) (hb : Below B w w') (hl : hi ≤ B) : ILow w' hi xs v := h.mono (fun _ hk => hk) fun k hk => hb.block k (Nat.lt_of_lt_of_le hk hl)
theorem low_in {w : World} {hi : Nat} {xs : List Int} {v : Value} (h : ILow w hi xs v) (hl : hi ≤ w.heap.size) : IIn w xs v := h.mono (fun k hk => Nat.lt_of_lt_of_le hk hl) fun _ _ => rfl
set_option maxRecDepth 100000 in
set_option maxHeartbeats 3200000 in
theorem walk (g : List Ce) (c : Value) (root : Int) (w : World) (hk : CIn w g c) (hi : I64 root) :
    Calls Try.prog 4 #[c, .int .i64 root] w fun e w' => e = .returned (.bool true) ∧ Below w.heap.size w w' := by
  have HK : Hid (CIn w g c) := hk
  have hrg := szC_range g 1048576 (by omega)
  obtain ⟨xs, hxs⟩ : ∃ xs, xs = plI (spL (spV g root)) := ⟨_, rfl⟩
  obtain ⟨f, hf⟩ : ∃ f, f = spF (spV g root) := ⟨_, rfl⟩
  obtain ⟨b, hb⟩ : ∃ b, b = (spV g root).isSome := ⟨_, rfl⟩
  have HXS : Hid (xs = plI (spL (spV g root)) ∧ f = spF (spV g root) ∧ b = (spV g root).isSome) := ⟨hxs, hf, hb⟩
  have hxl : xs.length ≤ g.length := by rw [hxs, plI_length]; exact spV_len g root
  have HSS : Hid (∀ (v : Value) (W : World), CIn W g v → Calls Try.prog 20 #[v, .int .i64 root] W fun en w' => ∃ u, en = .returned (.tuple #[.int .i64 f, u, .bool b]) ∧ IntRow w' W.heap.size xs u ∧ Below W.heap.size W w') := fun v W h => (specSpine_calls g root v W h).mono fun en w' h => by
    obtain ⟨u, h1, h2, h3⟩ := h
    rw [hxs, hf, hb]; exact ⟨u, h1, h2, h3⟩
  have HSI : Hid (∀ (v : Value) (W : World), CIn W g v → Calls Try.prog 21 #[v, .int .i64 root] W fun en w' => ∃ u, en = .returned (.tuple #[.int .i64 f, u, .bool b]) ∧ IntRow w' W.heap.size xs u ∧ Below W.heap.size W w') := fun v W h => (implSpine_calls g root v W h).mono fun en w' h => by
    obtain ⟨u, h1, h2, h3⟩ := h
    rw [hxs, hf, hb]; exact ⟨u, h1, h2, h3⟩
  have tf : (f != f) = false := by simp
  have tb : (b != b) = false := by simp
  clear hk hi hxs hf hb HXS
  go_enter Try.func4, Try.ntmps4
  go_wp2_with fail
  refine (szCells_calls g c _ _ HK.out (by omega) (by omega)).mono ?_
  rintro e w1 ⟨rfl, hb1⟩
  have HB1 : Hid (Below w.heap.size w w1) := hb1
  clear hb1
  by_cases hneg : szC g 1048576 < 0
  · go_wp2_with fail
    go_ret
    exact ⟨rfl, HB1.out⟩
  have HZ : Hid (g.length + sumK g ≤ 1048576) := by have := szC_le hneg; unfold Hid; omega
  have hz20 : g.length ≤ 1048576 := by have := HZ.out; omega
  generalize szC g 1048576 = left at *
  clear hrg
  go_wp2_with fail
  -- the model's answer
  refine (toCells_calls g c _ (HK.out.next HB1.out) HZ.out).mono ?_
  rintro e w2 ⟨v2, rfl, hv2, hb2⟩
  have HV2 : Hid (CIn w2 g v2) := hv2.inn
  have HB2 : Hid (Below w.heap.size w w2) := HB1.out.trans (hb2.mono HB1.out.size)
  clear hv2 hb2
  go_wp2_with fail
  refine (HSS.out v2 _ HV2.out).mono ?_
  rintro e w3 ⟨v3, rfl, hi3, hb3⟩
  have HI3 : Hid (ILow w3 w3.heap.size xs v3) := hi3.inn
  have HB3 : Hid (Below w.heap.size w w3) := HB2.out.trans (hb3.mono HB2.out.size)
  obtain ⟨ad3, cap3, rfl, -, -, -⟩ := hi3
  clear hb3
  go_wp2_with fail
  -- the program's argument
  refine (toCells_calls g c _ (HK.out.next HB3.out) HZ.out).mono ?_
  rintro e w4 ⟨v4, rfl, hv4, hb4⟩
  have HV4 : Hid (CIn w4 g v4) := hv4.inn
  have HSH4 : Hid (CShape w4 (List.range' w3.heap.size (w4.heap.size - w3.heap.size)) (g.map (·.kids.length)) v4) := CellRow.shape hv4
  have HI4 : Hid (ILow w4 w3.heap.size xs (.slice ad3 xs.length cap3)) := low_next HI3.out hb4 (Nat.le_refl _)
  have HB4 : Hid (Below w.heap.size w w4) := HB3.out.trans (hb4.mono HB3.out.size)
  have HS34 : Hid (w3.heap.size ≤ w4.heap.size) := hb4.size
  have HA3 : Hid (w.heap.size ≤ w3.heap.size) := HB3.out.size
  clear hv4 hb4
  go_wp2_with fail
  -- the program's answer
  refine (HSI.out v4 _ HV4.out).mono ?_
  rintro e w5 ⟨v5, rfl, hi5, hb5⟩
  have HG5 : Hid (IntRow w5 w4.heap.size xs v5) := hi5
  have HV5 : Hid (CIn w5 g v4) := HV4.out.next hb5
  have HK5 : Hid (∀ b, b < w4.heap.size → w5.heap[b]? = w4.heap[b]?) := hb5.block
  have HI5 : Hid (ILow w5 w3.heap.size xs (.slice ad3 xs.length cap3)) := low_next HI4.out hb5 HS34.out
  have HB5 : Hid (Below w.heap.size w w5) := HB4.out.trans (hb5.mono HB4.out.size)
  have HS5 : Hid (w4.heap.size ≤ w5.heap.size) := hb5.size
  obtain ⟨ad5, cap5, rfl, -, -, -⟩ := hi5
  clear hb5
  go_wp2_with fail
  refine (eqInts_calls xs _ _ w5 HG5.out.inn (low_in HI5.out (by have := HS34.out; have := HS5.out; omega))).mono ?_
  rintro e w6 ⟨rfl, hb6⟩
  have HG6 : Hid (IntRow w6 w4.heap.size xs (.slice ad5 xs.length cap5)) := HG5.out.next hb6
  have HV6 : Hid (CIn w6 g v4) := HV5.out.next hb6
  have HK6 : Hid (∀ b, b < w4.heap.size → w6.heap[b]? = w4.heap[b]?) := fun b hb => (hb6.block b (by have := HS5.out; omega)).trans (HK5.out b hb)
  have HI6 : Hid (ILow w6 w3.heap.size xs (.slice ad3 xs.length cap3)) := low_next HI5.out hb6 (by have := HS34.out; have := HS5.out; omega)
  have HB6 : Hid (Below w.heap.size w w6) := HB5.out.trans (hb6.mono HB5.out.size)
  have HS6 : Hid (w4.heap.size ≤ w6.heap.size) := Nat.le_trans HS5.out hb6.size
  clear hb6
  go_wp2_with fail
  refine (toCells_calls g c _ (HK.out.next HB6.out) HZ.out).mono ?_
  rintro e w7 ⟨v7, rfl, hv7, hb7⟩
  have HV7 : Hid (CIn w7 g v7) := hv7.inn
  have HV7' : Hid (CIn w7 g v4) := HV6.out.next hb7
  have HG7 : Hid (IntRow w7 w4.heap.size xs (.slice ad5 xs.length cap5)) := HG6.out.next hb7
  have HK7 : Hid (∀ b, b < w4.heap.size → w7.heap[b]? = w4.heap[b]?) := fun b hb => (hb7.block b (by have := HS6.out; omega)).trans (HK6.out b hb)
  have HI7 : Hid (ILow w7 w3.heap.size xs (.slice ad3 xs.length cap3)) := low_next HI6.out hb7 (by have := HS34.out; have := HS6.out; omega)
  have HB7 : Hid (Below w.heap.size w w7) := HB6.out.trans (hb7.mono HB6.out.size)
  have HS7 : Hid (w4.heap.size ≤ w7.heap.size) := Nat.le_trans HS6.out hb7.size
  clear hv7 hb7
  go_wp2_with fail
  refine (eqCells_calls g v4 v7 _ HV7'.out HV7.out).mono ?_
  rintro e w8 ⟨rfl, hb8⟩
  have HG8 : Hid (IntRow w8 w4.heap.size xs (.slice ad5 xs.length cap5)) := HG7.out.next hb8
  have HK8 : Hid (∀ b, b < w4.heap.size → w8.heap[b]? = w4.heap[b]?) := fun b hb => (hb8.block b (by have := HS7.out; omega)).trans (HK7.out b hb)
  have HI8 : Hid (ILow w8 w3.heap.size xs (.slice ad3 xs.length cap3)) := low_next HI7.out hb8 (by have := HS34.out; have := HS7.out; omega)
  have HB8 : Hid (Below w.heap.size w w8) := HB7.out.trans (hb8.mono HB7.out.size)
  have HS8 : Hid (w4.heap.size ≤ w8.heap.size) := Nat.le_trans HS7.out hb8.size
  have HFP : Hid (∀ k ∈ List.range' w3.heap.size (w4.heap.size - w3.heap.size), w3.heap.size ≤ k ∧ k < w4.heap.size) := fun k hk => by rw [List.mem_range'_1] at hk; have := HS34.out; omega
  have HSH8 : Hid (CShape w8 (List.range' w3.heap.size (w4.heap.size - w3.heap.size)) (g.map (·.kids.length)) v4) := CShape.blocks HSH4.out fun b hb => HK8.out b (HFP.out b hb).2
  clear hb8
  go_wp2_with fail
  -- the argument is marked
  refine (markCells_calls _ _ v4 1 w8 HSH8.out (by omega) (by omega) (by rw [sum_shape, List.length_map]; exact HZ.out)).mono ?_
  rintro e w9 ⟨rfl, hb9⟩
  have HG9 : Hid (IntRow w9 w4.heap.size xs (.slice ad5 xs.length cap5)) := HG8.out.keep (Nat.le_refl _) fun k h1 h2 => hb9.block k h2 (fun h => by have := (HFP.out k h).2; omega)
  have HI9 : Hid (ILow w9 w3.heap.size xs (.slice ad3 xs.length cap3)) := HI8.out.mono (fun _ hk => hk) fun k (hk : k < _) => hb9.block k (by have := HS34.out; have := HS8.out; omega) (fun h => by have := (HFP.out k h).1; omega)
  have HB9 : Hid (Below w.heap.size w w9) := HB8.out.trans (hb9.below (fun k h => by have := (HFP.out k h).1; have := HA3.out; omega) HB8.out.size)
  have HS9 : Hid (w4.heap.size ≤ w9.heap.size) := Nat.le_trans HS8.out hb9.size
  clear hb9
  obtain ⟨kk, hkk⟩ : ∃ kk : Int, kk = 1 + ((2 * (g.map (·.kids.length)).length + sumN' (g.map (·.kids.length)) : Nat) : Int) := ⟨_, rfl⟩
  rw [← hkk]
  have hk0 : 0 ≤ kk := by omega
  clear hkk
  go_wp2_with fail
  refine (eqInts_calls xs _ _ w9 HG9.out.inn (low_in HI9.out (by have := HS34.out; have := HS9.out; omega))).mono ?_
  rintro e w10 ⟨rfl, hb10⟩
  have HG10 : Hid (IntRow w10 w4.heap.size xs (.slice ad5 xs.length cap5)) := HG9.out.next hb10
  have HI10 : Hid (ILow w10 w3.heap.size xs (.slice ad3 xs.length cap3)) := low_next HI9.out hb10 (by have := HS34.out; have := HS9.out; omega)
  have HB10 : Hid (Below w.heap.size w w10) := HB9.out.trans (hb10.mono HB9.out.size)
  have HS10 : Hid (w4.heap.size ≤ w10.heap.size) := Nat.le_trans HS9.out hb10.size
  clear hb10
  go_wp2_with fail
  -- the answer is marked
  refine (markInts_calls xs w4.heap.size _ 1 w10 HG10.out (by omega) (by omega)).mono ?_
  rintro e w11 ⟨rfl, hi11, hb11⟩
  have HG11 : Hid (IntRow w11 w4.heap.size (upFrom 1 xs.length) (.slice ad5 xs.length cap5)) := hi11
  have HI11 : Hid (ILow w11 w3.heap.size xs (.slice ad3 xs.length cap3)) := low_next HI10.out hb11 HS34.out
  have HB11 : Hid (Below w.heap.size w w11) := HB10.out.trans (hb11.mono (by have := HA3.out; have := HS34.out; omega))
  have HS11 : Hid (w4.heap.size ≤ w11.heap.size) := Nat.le_trans HS10.out hb11.size
  clear hi11 hb11
  go_wp2_with fail
  refine (heldInts_calls xs.length _ 1 w11 HG11.out.inn (by omega) (by omega)).mono ?_
  rintro e w12 ⟨rfl, hb12⟩
  have HG12 : Hid (IntRow w12 w4.heap.size (upFrom 1 xs.length) (.slice ad5 xs.length cap5)) := HG11.out.next hb12
  have HI12 : Hid (ILow w12 w3.heap.size xs (.slice ad3 xs.length cap3)) := low_next HI11.out hb12 (by have := HS34.out; have := HS11.out; omega)
  have HB12 : Hid (Below w.heap.size w w12) := HB11.out.trans (hb12.mono HB11.out.size)
  have HS12 : Hid (w4.heap.size ≤ w12.heap.size) := Nat.le_trans HS11.out hb12.size
  clear hb12
  have tq : ((1 + (xs.length : Int)) != 1 + (xs.length : Int)) = false := by simp
  go_wp2_with fail
  -- called once more
  refine (toCells_calls g c _ (HK.out.next HB12.out) HZ.out).mono ?_
  rintro e w13 ⟨v13, rfl, hv13, hb13⟩
  have HV13 : Hid (CIn w13 g v13) := hv13.inn
  have HG13 : Hid (IntRow w13 w4.heap.size (upFrom 1 xs.length) (.slice ad5 xs.length cap5)) := HG12.out.next hb13
  have HI13 : Hid (ILow w13 w3.heap.size xs (.slice ad3 xs.length cap3)) := low_next HI12.out hb13 (by have := HS34.out; have := HS12.out; omega)
  have HB13 : Hid (Below w.heap.size w w13) := HB12.out.trans (hb13.mono HB12.out.size)
  have HS13 : Hid (w4.heap.size ≤ w13.heap.size) := Nat.le_trans HS12.out hb13.size
  clear hv13 hb13
  go_wp2_with fail
  refine (HSI.out v13 _ HV13.out).mono ?_
  rintro e w14 ⟨v14, rfl, hi14, hb14⟩
  have HH14 : Hid (IntRow w14 w13.heap.size xs v14) := hi14
  have HG14 : Hid (IntRow w14 w4.heap.size (upFrom 1 xs.length) (.slice ad5 xs.length cap5)) := HG13.out.next hb14
  have HI14 : Hid (ILow w14 w3.heap.size xs (.slice ad3 xs.length cap3)) := low_next HI13.out hb14 (by have := HS34.out; have := HS13.out; omega)
  have HB14 : Hid (Below w.heap.size w w14) := HB13.out.trans (hb14.mono HB13.out.size)
  have HS14 : Hid (w4.heap.size ≤ w14.heap.size) := Nat.le_trans HS13.out hb14.size
  obtain ⟨ad14, cap14, rfl, -, -, -⟩ := hi14
  clear hb14
  go_wp2_with fail
  refine (eqInts_calls xs _ _ w14 HH14.out.inn (low_in HI14.out (by have := HS34.out; have := HS14.out; omega))).mono ?_
  rintro e w15 ⟨rfl, hb15⟩
  have HG15 : Hid (IntRow w15 w4.heap.size (upFrom 1 xs.length) (.slice ad5 xs.length cap5)) := HG14.out.next hb15
  have HB15 : Hid (Below w.heap.size w w15) := HB14.out.trans (hb15.mono HB14.out.size)
  clear hb15
  go_wp2_with fail
  refine (heldInts_calls xs.length _ 1 w15 HG15.out.inn (by omega) (by omega)).mono ?_
  rintro e w16 ⟨rfl, hb16⟩
  have HB16 : Hid (Below w.heap.size w w16) := HB15.out.trans (hb16.mono HB15.out.size)
  clear hb16
  go_wp2_with fail
  go_ret
  exact ⟨rfl, HB16.out⟩
end Go.Proofs.Ythlblgibgfledaa.lawExactSpineOf
