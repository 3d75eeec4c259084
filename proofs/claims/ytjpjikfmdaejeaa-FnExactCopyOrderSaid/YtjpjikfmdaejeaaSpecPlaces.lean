/-
  THE MODEL's l5Places: the places of copies.
-/
import Derived.Test.YtjpjikfmdaejeaaPlN
import Derived.Test.YtjpjikfmdaejeaaOrdM
namespace Go.Proofs.Ytjpjikfmdaejeaa
set_option linter.unusedVariables false
set_option linter.unusedSimpArgs false
open Go.RowKit

/-- a row of places of copies -/
abbrev PlW (w : World) (b n : Nat) (o : List Nat) : Prop := w.rowIs b 3 n (fun x => .int .i64 (placeV o x))
def NewPl (n : Nat) (o : List Nat) (w : World) (e : Ending) (w' : World) : Prop :=
  ∃ b, e = .returned (.slice (some ⟨b, 0, none⟩) n n) ∧ w.heap.size ≤ b ∧ PlW w' b n o ∧ Below w.heap.size w w'

set_option maxRecDepth 100000 in
set_option maxHeartbeats 1600000 in
theorem l5Places_calls (n : Nat) (o : List Nat) (ov : Value) (w : World) (ho : IIn w (plI o) ov) (hc : Cs n o) (hn : n ≤ 400) :
    Calls Try.prog 43 #[.int .i64 (n : Int), ov] w (NewPl n o w) := by
  have HO : Hid (IIn w (plI o) ov) := ho
  have HC : Hid (Cs n o) := hc
  obtain ⟨ad, cap, rfl, hl, hm⟩ := pl_form ho
  unfold maxLen at hm
  have hol := hc.len
  have hmk := make_ints n (by omega)
  have HZ : Hid ((w.alloc (.cells (madeCells #[.int .i64 0] n) 3)).rowIs w.heap.size 3 n (fun x => .int .i64 (if x < 0 then -1 else 0))) := World.rowIs.congr (zero_row w n) fun i _ => by simp
  clear hc ho
  go_enter Try.func43, Try.ntmps43
  go_wp2_with fail
  go_loopw [6] (fun i wr => ∃ k : Nat, k ≤ n ∧ i = .int .i64 k ∧ wr.rowIs w.heap.size 3 n (fun x => .int .i64 (if x < k then -1 else 0)) ∧ Below w.heap.size w wr) (fun i _ => n - (intOf i).toNat)
  case atStart => exact ⟨0, Nat.zero_le _, rfl, HZ.out, (Below.refl _ _).alloc (Nat.le_refl _) _⟩
  case round =>
    obtain ⟨k, hk, rfl, hrow, hb⟩ := hrel
    have HB : Hid (Below w.heap.size w wr) := hb
    have HR : Hid (wr.rowIs w.heap.size 3 n (fun x => .int .i64 (if x < k then -1 else 0))) := hrow
    by_cases hlt : k < n
    · have cm : wr.cell? ⟨w.heap.size, k, none⟩ = some (.int .i64 0) := by have h := hrow.cell (i := k) hlt; simpa using h
      have fm := hrow.frozen k
      have HR2 : Hid ((wr.setCell ⟨w.heap.size, k, none⟩ (.int .i64 (-1))).rowIs w.heap.size 3 n (fun x => .int .i64 (if x < k + 1 then -1 else 0))) := by
        refine World.rowIs.congr (hrow.set k _) fun x _ => ?_
        by_cases e : x = k
        · subst e; simp
        · have : (x < k + 1) = (x < k) := by apply propext; omega
          simp [e, this]
      have HB2 : Hid (Below w.heap.size w (wr.setCell ⟨w.heap.size, k, none⟩ (.int .i64 (-1)))) := hb.setCell (Nat.le_refl _) _
      clear hrow hb
      go_wp2_with fail
      go_roundw
      case rel => exact ⟨k + 1, by omega, by go_num, HR2.out, HB2.out⟩
      case measure => simp [intOf]; omega
    · have hke : k = n := by omega
      have HP : Hid (PlW wr w.heap.size n (o.take 0)) := by
        refine World.rowIs.congr HR.out fun x hx => ?_
        simp [placeV_nil, hke, hx]
      clear hke hrow hb
      go_wp2_with fail
      go_loopw [7] (fun i wr => ∃ k : Nat, k ≤ o.length ∧ i = .int .i64 k ∧ PlW wr w.heap.size n (o.take k) ∧ Below w.heap.size w wr) (fun i _ => o.length - (intOf i).toNat)
      case atStart => exact ⟨0, Nat.zero_le _, rfl, HP.out, HB.out⟩
      case round =>
        obtain ⟨k, hk, rfl, hrow, hb⟩ := hrel
        have HB : Hid (Below w.heap.size w wr) := hb
        have HR : Hid (PlW wr w.heap.size n (o.take k)) := hrow
        by_cases hlt : k < o.length
        · obtain ⟨bl, off, x, rfl, hbl, hx, hxm, d0w⟩ := pl_at HO.out k hlt
          have hxl := HC.out.2 x hxm
          have d0 := (hb.cell (p := ⟨bl, off + k, none⟩) hbl).trans d0w
          have cm := hrow.cell (i := x) hxl
          have fm := hrow.frozen x
          have HR2 : Hid (PlW (wr.setCell ⟨w.heap.size, x, none⟩ (.int .i64 (k : Int))) w.heap.size n (o.take (k + 1))) := by
            refine World.rowIs.congr (hrow.set x _) fun y _ => ?_
            rw [take_snoc hx, placeV_snoc (take_not HC.out.1 hx), List.length_take, Nat.min_eq_left (by omega)]
            by_cases e : y = x
            · simp [e]
            · simp [e]
          have HB2 : Hid (Below w.heap.size w (wr.setCell ⟨w.heap.size, x, none⟩ (.int .i64 (k : Int)))) := hb.setCell (Nat.le_refl _) _
          clear hx hxm d0w hrow hb
          go_wp2_with fail
          go_roundw
          case rel => exact ⟨k + 1, by omega, by go_num, HR2.out, HB2.out⟩
          case measure => simp [intOf]; omega
        · have hke : k = o.length := by omega
          have HV : Hid (PlW wr w.heap.size n o) := by
            have h := HR.out
            rw [hke, List.take_length] at h; exact h
          clear hke hrow hb
          go_wp2_with fail
          go_ret
          exact ⟨_, rfl, Nat.le_refl _, HV.out, HB.out⟩
end Go.Proofs.Ytjpjikfmdaejeaa
