/-
  slices.Backward OF A LIST OF INTS: what its iterator hands to the rounds: (place, number), from the end on; for rounds that keep the blocks of the list.
-/
import Derived.Test.YtiipcgnkfhjpeaaGreatDoorMgExactEvalRun43
namespace Go.Proofs.YtiipcgnkfhjpeaaGreatDoor
set_option linter.unusedVariables false
set_option linter.unusedSimpArgs false
open Go.RowKit

attribute [local go_sem] Oper.semAt_some
/-- blocks of K stay -/
def KeepK (K : Nat → Prop) (W W' : World) : Prop := ∀ k, K k → W'.heap[k]? = W.heap[k]?
theorem KeepK.refl (K : Nat → Prop) (W : World) : KeepK K W W := fun _ _ => rfl
theorem KeepK.trans {K : Nat → Prop} {A B C : World} (h : KeepK K A B) (h2 : KeepK K B C) : KeepK K A C := fun k hk => (h2 k hk).trans (h k hk)
/-- what has come behind k rounds -/
def dnL (xs : List Int) (k : Nat) : List (Nat × Int) := (List.range k).map fun j => (xs.length - 1 - j, xs[xs.length - 1 - j]?.getD 0)
theorem dnL_succ (xs : List Int) (k : Nat) : dnL xs (k + 1) = dnL xs k ++ [(xs.length - 1 - k, xs[xs.length - 1 - k]?.getD 0)] := by unfold dnL; rw [List.range_succ, List.map_append]; rfl
theorem dnL_length (xs : List Int) (k : Nat) : (dnL xs k).length = k := by unfold dnL; simp
theorem dnL_map (xs : List Int) {α : Type} (f : Int → α) : (dnL xs xs.length).map (fun x => f x.2) = (xs.map f).reverse := by
  refine List.ext_getElem (by simp [dnL]) fun i h1 h2 => ?_
  simp only [List.length_map, dnL_length] at h1
  simp only [dnL, List.map_map, List.getElem_map, List.getElem_range, Function.comp, List.getElem_reverse, List.length_map]
  rw [List.getElem?_eq_getElem (by omega)]
  rfl

/-- what a round is handed: a place and a number of which p holds -/
abbrev Bk (p : Int → Prop) := { x : Nat × Int // p x.2 }

set_option maxRecDepth 100000 in
set_option maxHeartbeats 2000000 in
theorem back1_in (n : Nat) (hn : 1 ≤ n) (l B : Nat) (K : Nat → Prop) (p : Int → Prop) (xs : List Int) (v : Value) (J Jx : List (Bk p) → World → Prop) (hl : xs.length ≤ 1048576) (hp : ∀ x ∈ xs, p x)
    (hY : ∀ pre x W, J pre W → pre.length < xs.length → YieldAt Fence.wide (n - 1) Tryz.prog l #[.int .i64 (x.1.1 : Int), .int .i64 x.1.2] W fun e W' =>
      (e = .returned (.bool true) ∧ J (pre ++ [x]) W' ∧ KeepK K W W') ∨ (e = .returned (.bool false) ∧ Jx (pre ++ [x]) W'))
    (W : World) (hKB : K B) (hB : W.heap[B]? = some (.cells #[v] 88)) (hI : IntsOn W K xs v) (h0 : J [] W) :
    CallsIn Fence.wide n Tryz.prog 162 #[.func (.yield l) #[] #[], .pointer (some ⟨B, 0, none⟩)] W fun e W' => (∃ v, e = .returned v) ∧
      ((∃ ys : List (Bk p), ys.map (·.1) = dnL xs xs.length ∧ J ys W') ∨ (∃ pre, True ∧ Jx pre W')) := by
  obtain ⟨ad, cap, rfl, hlc, hcm, hr⟩ := id hI
  have HKI : Hid (∀ W', KeepK K W W' → W'.cell? ⟨B, 0, none⟩ = some (.slice ad xs.length cap) ∧ ∀ j (hj : j < xs.length), ∃ bl off, ad = some ⟨bl, off, none⟩ ∧ W'.cell? ⟨bl, off + j, none⟩ = some (.int .i64 xs[j])) := by
    intro W' hk
    refine ⟨cell_of_blk ((hk B hKB).trans hB) 0 _ rfl, fun j hj => ?_⟩
    rcases hr with hr | ⟨bl, off, e, hb, hr⟩
    · rw [hr] at hj; simp at hj
    · exact ⟨bl, off, e, (World.cell?_of_block (hk bl hb)).trans (hr j hj)⟩
  have hc0 := (HKI.out W (KeepK.refl _ _)).1
  have HL := mkHid hl
  unfold maxLen at hcm
  have HY := mkHid hY
  have HP := mkHid hp
  clear hB hI hr hl hY hp
  refine callsIn_of_wp Tryz.func162 rfl trivial ?_ rfl
  simp only [Tryz.ntmps162, List.size_toArray, List.length_cons, List.length_nil, Nat.reduceAdd, Nat.reduceSub, Array.replicate_succ, Array.replicate_zero, List.push_toArray, List.append_toArray, List.nil_append, List.cons_append]
  gi_wp2
  gi_loopw [3] (fun i wr => ∃ (k : Nat) (z : Int) (ys : List (Bk p)), k ≤ xs.length ∧ i = .int .i64 z ∧ Hid (z = (xs.length : Int) - 1 - k) ∧ Hid (ys.map (·.1) = dnL xs k) ∧ J ys wr ∧ KeepK K W wr)
    (fun i _ => (intOf i + 1).toNat)
  case atStart => exact ⟨0, _, [], Nat.zero_le _, rfl, by show _ = _; omega, rfl, h0, KeepK.refl _ _⟩
  case round =>
    obtain ⟨k, z, ys, hk, rfl, hz, hys, hJs, hkp⟩ := hrel
    obtain ⟨hcb, hcx⟩ := HKI.out wr hkp
    have HYL : Hid (ys.length = k) := by show _ = _; have := congrArg List.length hys.out; rw [List.length_map, dnL_length] at this; exact this
    by_cases hlt : k < xs.length
    · obtain ⟨m, hm⟩ : ∃ m, m + 1 + k = xs.length := ⟨xs.length - 1 - k, by omega⟩
      have hzm : z = (m : Int) := by have := hz.out; omega
      subst hzm
      have hml : m < xs.length := by omega
      obtain ⟨bl, off, rfl, hcm2⟩ := hcx m hml
      have HM : Hid (xs.length - 1 - k = m) := by show _ = _; omega
      have hmI : (m : Int) < (xs.length : Int) := by omega
      obtain ⟨fn, tmps, assign, body, hy, hR⟩ := HY.out _ ⟨(m, xs[m]), HP.out _ (List.getElem_mem hml)⟩ wr hJs (by rw [HYL.out]; exact hlt)
      dsimp only at hy
      have HJN : Hid ((ys ++ [(⟨(m, xs[m]), HP.out _ (List.getElem_mem hml)⟩ : Bk p)]).map (·.1) = dnL xs (k + 1)) := by
        show _ = _
        rw [List.map_append, hys.out, dnL_succ, HM.out, List.getElem?_eq_getElem hml]; rfl
      have HMK := mkHid hm
      have hm0 : 0 ≤ (m : Int) := by omega
      have hm1 : (m : Int) ≤ 1048576 := by have := HL.out; omega
      clear hm hcx hz
      gi_wp2
      refine hR.mono ?_
      rintro e W3 (⟨rfl, hJ3, hk3⟩ | ⟨rfl, hJx3⟩)
      · gi_wp2
        go_roundw
        case rel => exact ⟨k + 1, _, _, by omega, rfl, by show _ = _; have := HMK.out; omega, HJN, hJ3, hkp.trans hk3⟩
        case measure => simp [intOf]
      · gi_wp2
        refine bodyPost_ret (results_none rfl _ _ _) rfl ?_
        exact ⟨⟨_, rfl⟩, .inr ⟨_, trivial, hJx3⟩⟩
    · obtain rfl : k = xs.length := by omega
      have hzm : z = -1 := by have := hz.out; omega
      subst hzm
      clear hcx hz
      gi_wp2
      go_end0
      exact ⟨⟨_, rfl⟩, .inl ⟨_, hys.out, hJs⟩⟩
/-- the iterator of slices.Backward -/
theorem backward_stops (n : Nat) (hn : 1 ≤ n) (B : Nat) (K : Nat → Prop) (p : Int → Prop) (xs : List Int) (v : Value) (hl : xs.length ≤ 1048576) (hp : ∀ x ∈ xs, p x) (w : World) (hKB : K B) (hKl : ∀ k, K k → k < w.heap.size) (hB : w.heap[B]? = some (.cells #[v] 88)) (hI : IntsOn w K xs v) :
    SeqStopsK Fence.wide n Tryz.prog 162 #[.pointer (some ⟨B, 0, none⟩)] (fun x : Bk p => #[Value.int .i64 (x.1.1 : Int), Value.int .i64 x.1.2]) (KeepK K) (fun ys => ys.map (·.1) = dnL xs xs.length) (fun _ => True) xs.length w := fun l J Jx W hW _ _ hY h0 =>
  back1_in n hn l B K p xs v J Jx hl hp hY W hKB ((hW.block B (hKl B hKB)).trans hB) (hI.mono (fun _ h => h) (fun k hk => hW.block k (hKl k hk))) h0
end Go.Proofs.YtiipcgnkfhjpeaaGreatDoor
