/-
  THE PROGRAM's arena, wherever it lies: one cell more.
-/
import Derived.Test.YtidijbnoaeopdaaGreatDoorMgExactNumberRun10
import Derived.Test.YtidijbnoaeopdaaGreatDoorMgExactNumberRun16
import Derived.Deep.DeepCutAuto
import Derived.Deep.RegionWith
import Derived.Deep.RegionHeld3
import Derived.Deep.RegionLaw
import Derived.IntWalk
import Derived.Test.YtidijbnoaeopdaaGreatDoorMgExactNumberRun12
import Derived.Test.YtidijbnoaeopdaaGreatDoorMgExactNumberRun20
namespace Go.Proofs.YtidijbnoaeopdaaGreatDoor
set_option linter.unusedVariables false
set_option linter.unusedSimpArgs false
open Go.RowKit

theorem row_ne_cells {w : World} {A lo n : Nat} {T : TypeId} {CC : Array Value} {gv : Value} {xs : List Value} (hT : T ≠ 93) (hA : w.heap[A]? = some (.cells CC T)) (hx : w.ownsRow lo 93 3 gv n xs) : some A ≠ gv.ownBlock := by
  intro e
  rcases hx.2 with ⟨rfl, -⟩ | ⟨b, cap, cur, rfl, -, hh, -⟩
  · simp [Value.ownBlock] at e
  · simp only [Value.ownBlock, Option.some.injEq] at e
    subst e
    rw [hh] at hA
    simp only [Option.some.injEq, Obj.cells.injEq] at hA
    exact hT hA.2.1.symm
theorem grown_drew {w w5 : World} {b : Option Nat} (h : w.drew.grownBy w5 b) : w.grownBy w5 b := ⟨h.os, h.tape, h.output, h.size, h.block⟩
theorem arp_keep {w w5 : World} {A lo n : Nat} {T : TypeId} {CC : Array Value} {gv : Value} {xs : List Value} {o1 o2 : Obj} (hT : T ≠ 93) (hA : w.heap[A]? = some (.cells CC T)) (hx : w.ownsRow lo 93 3 gv n xs) (hg : ((w.alloc o1).alloc o2).grownBy w5 gv.ownBlock) : w5.heap[A]? = some (.cells CC T) := by
  have hl : A < w.heap.size := (Array.getElem?_eq_some_iff.1 hA).1
  exact ((hg.block A (by rw [Deep.nblk_alloc, Deep.nblk_alloc]; omega) (row_ne_cells hT hA hx)).trans ((Deep.blk_alloc_lt _ _ _ (by rw [Deep.nblk_alloc]; omega)).trans (Deep.blk_alloc_lt _ _ _ hl))).trans hA

/-- what add hands back: the cell's place; its row is the arena's -/
def AddedP (A q lo n : Nat) (o m : Int) (gv kv : Value) (xs : List Value) (w : World) (e : Ending) (w' : World) : Prop :=
  ∃ v' w5, e = .returned (.int .i64 (n : Int)) ∧ w5.ownsRow lo 93 3 v' (n + 1) (xs ++ [.int .i64 o, .int .i64 m, kv]) ∧ ((w.alloc (.cells #[.int .i64 o, .int .i64 m, kv] 93)).alloc (.cells #[.int .i64 o, .int .i64 m, kv] 93)).grownBy w5 gv.ownBlock ∧ (v'.ownBlock = gv.ownBlock ∨ ∃ g, v'.ownBlock = some g ∧ ((w.alloc (.cells #[.int .i64 o, .int .i64 m, kv] 93)).alloc (.cells #[.int .i64 o, .int .i64 m, kv] 93)).heap.size ≤ g) ∧ w' = w5.setCell ⟨A, q, none⟩ v'

set_option maxRecDepth 100000 in
set_option maxHeartbeats 1600000 in
theorem addP_calls (A q : Nat) (T : TypeId) (CC : Array Value) (hT : T ≠ 93) (lo n : Nat) (o m : Int) (gv : Value) (adk : Option Addr) (nk ck : Nat) (xs : List Value) (w : World) (hA : w.heap[A]? = some (.cells CC T)) (hq : CC[q]? = some gv) (hx : w.ownsRow lo 93 3 gv n xs) (hlo : lo ≤ w.heap.size) (hn : n ≤ 500000) :
    Calls Tryz.prog 106 #[.pointer (some ⟨A, q, none⟩), .agg #[.int .i64 o, .int .i64 m, .slice adk nk ck]] w (AddedP A q lo n o m gv (.slice adk nk ck) xs w) := by
  have HA : Hid (w.heap[A]? = some (.cells CC T)) := hA
  have HX : Hid (w.ownsRow lo 93 3 gv n xs) := hx
  have a0 := cell_of_blk hA q _ hq
  have af := frz_of_blk hA q
  obtain ⟨ad, cap, rfl⟩ : ∃ ad cap, gv = .slice ad n cap := by
    rcases hx.2 with ⟨rfl, h0⟩ | ⟨b, cap, cur, rfl, -⟩
    · exact ⟨none, 0, by rw [h0]⟩
    · exact ⟨_, _, rfl⟩
  have HQ := mkHid hq
  clear hA hx hq
  go_enter Tryz.func106, Tryz.ntmps106
  have p0 := old_cell a0 (.cells #[.int .i64 o, .int .i64 m, .slice adk nk ck] 93)
  have p1 := old_cell p0 (.cells #[.int .i64 o, .int .i64 m, .slice adk nk ck] 93)
  have b0 := box_cell w #[.int .i64 o, .int .i64 m, .slice adk nk ck] 93 0 _ rfl
  have b1 := box_cell w #[.int .i64 o, .int .i64 m, .slice adk nk ck] 93 1 _ rfl
  have b2 := box_cell w #[.int .i64 o, .int .i64 m, .slice adk nk ck] 93 2 _ rfl
  obtain ⟨iC, zC, hII⟩ := infoC1
  have HII : Hid (Tryz.prog.info? 93 = some iC ∧ iC.zero = some zC ∧ iC.size = 3 ∧ iC.bytes = 40 ∧ zC.cells.size = 3) := hII
  have HX2 : Hid (((w.alloc (.cells #[.int .i64 o, .int .i64 m, .slice adk nk ck] 93)).alloc (.cells #[.int .i64 o, .int .i64 m, .slice adk nk ck] 93)).drew.ownsRow lo 93 3 (.slice ad n cap) n xs) := own_keep (own_keep (own_keep HX.out (fun k _ hk => Deep.blk_alloc_lt _ _ _ hk)) (fun k _ hk => Deep.blk_alloc_lt _ _ _ hk)) (fun _ _ _ => rfl)
  clear hII
  go_wp2_with fail
  go_region_law (refine step_append_where rfl (.tmp 9) (.tmp 11) 28 rfl lo 93 iC zC 3 40 Tryz.underlying28 HII.out.1 HII.out.2.1 HII.out.2.2.1 HII.out.2.2.2.1 HII.out.2.2.2.2 (by decide) (.slice ad n cap) n xs (by simp [Act.eval, Act.put]) HX2.out ⟨w.heap.size + 1, 0, none⟩ 1 1 [.int .i64 o, .int .i64 m, .slice adk nk ck] (by simp [Act.eval, Act.put]) rfl (by have h := news3c (w.alloc (.cells #[.int .i64 o, .int .i64 m, .slice adk nk ck] 93)) (.int .i64 o) (.int .i64 m) (.slice adk nk ck); rw [Deep.nblk_alloc] at h; exact h) (by simp [Value.oneCell']) (by unfold maxLen; omega) (by omega) (by show lo ≤ ((w.alloc _).alloc _).heap.size; simp only [Deep.nblk_alloc]; omega) (by omega) ?_; intro v' w5 hown hg0 hw; have hg := grown_drew hg0; clear hg0; obtain ⟨g', c', rfl, -, -, -, -⟩ := own_form hown (by omega); have s2 := cell_of_blk (arp_keep hT HA.out HX.out hg) q _ HQ.out; have sf := frz_of_blk (arp_keep hT HA.out HX.out hg) q)
  all_goals
    have hn0 : ¬ ((n : Int) + 1 - 1 < 0) := by omega
    have h64 : IntKind.i64.wrap ((n : Int) + 1 - 1) = (n : Int) := by rw [show (n : Int) + 1 - 1 = (n : Int) by omega]; exact IntWalk.i64_in _ (by omega)
    go_wp2_with fail
    go_ret
    exact ⟨_, w5, rfl, hown, hg, hw, rfl⟩
end Go.Proofs.YtidijbnoaeopdaaGreatDoor
/-
  THE PROGRAM's arena: one cell more.
-/
namespace Go.Proofs.YtidijbnoaeopdaaGreatDoor
set_option linter.unusedVariables false
set_option linter.unusedSimpArgs false
open Go.RowKit

theorem cells_ne_arena {w : World} {A lo n : Nat} {gv gv0 : Value} {xs : List Value} (hA : w.heap[A]? = some (.cells #[gv0] 149)) (hx : w.ownsRow lo 93 3 gv n xs) : some A ≠ gv.ownBlock := by
  intro e
  rcases hx.2 with ⟨rfl, -⟩ | ⟨b, cap, cur, rfl, -, hh, -⟩
  · simp [Value.ownBlock] at e
  · simp only [Value.ownBlock, Option.some.injEq] at e
    subst e
    rw [hh] at hA
    simp at hA
theorem ar_keep {w w5 : World} {A lo n : Nat} {gv : Value} {xs : List Value} {o1 o2 : Obj} (hA : w.heap[A]? = some (.cells #[gv] 149)) (hx : w.ownsRow lo 93 3 gv n xs) (hg : ((w.alloc o1).alloc o2).grownBy w5 gv.ownBlock) : w5.heap[A]? = some (.cells #[gv] 149) := by
  have hl : A < w.heap.size := (Array.getElem?_eq_some_iff.1 hA).1
  exact ((hg.block A (by rw [Deep.nblk_alloc, Deep.nblk_alloc]; omega) (cells_ne_arena hA hx)).trans ((Deep.blk_alloc_lt _ _ _ (by rw [Deep.nblk_alloc]; omega)).trans (Deep.blk_alloc_lt _ _ _ hl))).trans hA

/-- what add hands back: the cell's place; its row is the arena's -/
abbrev Added (A lo n : Nat) (o m : Int) (gv kv : Value) (xs : List Value) (w : World) (e : Ending) (w' : World) : Prop := AddedP A 0 lo n o m gv kv xs w e w'
theorem arena_not_cell : (149 : TypeId) ≠ 93 := by decide
theorem add_calls (A lo n : Nat) (o m : Int) (gv : Value) (adk : Option Addr) (nk ck : Nat) (xs : List Value) (w : World) (hA : w.heap[A]? = some (.cells #[gv] 149)) (hx : w.ownsRow lo 93 3 gv n xs) (hlo : lo ≤ w.heap.size) (hn : n ≤ 500000) :
    Calls Tryz.prog 106 #[.pointer (some ⟨A, 0, none⟩), .agg #[.int .i64 o, .int .i64 m, .slice adk nk ck]] w (Added A lo n o m gv (.slice adk nk ck) xs w) :=
  addP_calls A 0 149 #[gv] arena_not_cell lo n o m gv adk nk ck xs w hA rfl hx hlo hn
end Go.Proofs.YtidijbnoaeopdaaGreatDoor
