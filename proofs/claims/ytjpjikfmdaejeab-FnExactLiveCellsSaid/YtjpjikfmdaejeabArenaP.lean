/-
  THE PROGRAM's arena, wherever it lies: one cell more.
-/
import Derived.Test.YtjpjikfmdaejeabOwnC
import Derived.Test.YtjpjikfmdaejeabOwnSome
import Derived.Test.YtjpjikfmdaejeabAtS
import Derived.Deep.DeepCutAuto
import Derived.Deep.RegionWith
import Derived.Deep.RegionHeld3
import Derived.Deep.RegionLaw
import Derived.IntWalk
namespace Go.Proofs.Ytjpjikfmdaejeab
set_option linter.unusedVariables false
set_option linter.unusedSimpArgs false
open Go.RowKit

theorem row_ne_cells {w : World} {A lo n : Nat} {T : TypeId} {CC : Array Value} {gv : Value} {xs : List Value} (hT : T ≠ 60) (hA : w.heap[A]? = some (.cells CC T)) (hx : w.ownsRow lo 60 3 gv n xs) : some A ≠ gv.ownBlock := by
  intro e
  rcases hx.2 with ⟨rfl, -⟩ | ⟨b, cap, cur, rfl, -, hh, -⟩
  · simp [Value.ownBlock] at e
  · simp only [Value.ownBlock, Option.some.injEq] at e
    subst e
    rw [hh] at hA
    simp only [Option.some.injEq, Obj.cells.injEq] at hA
    exact hT hA.2.1.symm
theorem grown_drew {w w5 : World} {b : Option Nat} (h : w.drew.grownBy w5 b) : w.grownBy w5 b := ⟨h.os, h.tape, h.output, h.size, h.block⟩
theorem arp_keep {w w5 : World} {A lo n : Nat} {T : TypeId} {CC : Array Value} {gv : Value} {xs : List Value} {o1 o2 : Obj} (hT : T ≠ 60) (hA : w.heap[A]? = some (.cells CC T)) (hx : w.ownsRow lo 60 3 gv n xs) (hg : ((w.alloc o1).alloc o2).grownBy w5 gv.ownBlock) : w5.heap[A]? = some (.cells CC T) := by
  have hl : A < w.heap.size := (Array.getElem?_eq_some_iff.1 hA).1
  exact ((hg.block A (by rw [Deep.nblk_alloc, Deep.nblk_alloc]; omega) (row_ne_cells hT hA hx)).trans ((Deep.blk_alloc_lt _ _ _ (by rw [Deep.nblk_alloc]; omega)).trans (Deep.blk_alloc_lt _ _ _ hl))).trans hA

/-- what add hands back: the cell's place; its row is the arena's -/
def AddedP (A q lo n : Nat) (o m : Int) (gv kv : Value) (xs : List Value) (w : World) (e : Ending) (w' : World) : Prop :=
  ∃ v' w5, e = .returned (.int .i64 (n : Int)) ∧ w5.ownsRow lo 60 3 v' (n + 1) (xs ++ [.int .i64 o, .int .i64 m, kv]) ∧ ((w.alloc (.cells #[.int .i64 o, .int .i64 m, kv] 60)).alloc (.cells #[.int .i64 o, .int .i64 m, kv] 60)).grownBy w5 gv.ownBlock ∧ (v'.ownBlock = gv.ownBlock ∨ ∃ g, v'.ownBlock = some g ∧ ((w.alloc (.cells #[.int .i64 o, .int .i64 m, kv] 60)).alloc (.cells #[.int .i64 o, .int .i64 m, kv] 60)).heap.size ≤ g) ∧ w' = w5.setCell ⟨A, q, none⟩ v'

set_option maxRecDepth 100000 in
set_option maxHeartbeats 1600000 in
theorem addP_calls (A q : Nat) (T : TypeId) (CC : Array Value) (hT : T ≠ 60) (lo n : Nat) (o m : Int) (gv : Value) (adk : Option Addr) (nk ck : Nat) (xs : List Value) (w : World) (hA : w.heap[A]? = some (.cells CC T)) (hq : CC[q]? = some gv) (hx : w.ownsRow lo 60 3 gv n xs) (hlo : lo ≤ w.heap.size) (hn : n ≤ 500000) :
    Calls Try.prog 95 #[.pointer (some ⟨A, q, none⟩), .agg #[.int .i64 o, .int .i64 m, .slice adk nk ck]] w (AddedP A q lo n o m gv (.slice adk nk ck) xs w) := by
  have HA : Hid (w.heap[A]? = some (.cells CC T)) := hA
  have HX : Hid (w.ownsRow lo 60 3 gv n xs) := hx
  have a0 := cell_of_blk hA q _ hq
  have af := frz_of_blk hA q
  obtain ⟨ad, cap, rfl⟩ : ∃ ad cap, gv = .slice ad n cap := by
    rcases hx.2 with ⟨rfl, h0⟩ | ⟨b, cap, cur, rfl, -⟩
    · exact ⟨none, 0, by rw [h0]⟩
    · exact ⟨_, _, rfl⟩
  have HQ := mkHid hq
  clear hA hx hq
  go_enter Try.func95, Try.ntmps95
  have p0 := old_cell a0 (.cells #[.int .i64 o, .int .i64 m, .slice adk nk ck] 60)
  have p1 := old_cell p0 (.cells #[.int .i64 o, .int .i64 m, .slice adk nk ck] 60)
  have b0 := box_cell w #[.int .i64 o, .int .i64 m, .slice adk nk ck] 60 0 _ rfl
  have b1 := box_cell w #[.int .i64 o, .int .i64 m, .slice adk nk ck] 60 1 _ rfl
  have b2 := box_cell w #[.int .i64 o, .int .i64 m, .slice adk nk ck] 60 2 _ rfl
  obtain ⟨iC, zC, hII⟩ := infoC1
  have HII : Hid (Try.prog.info? 60 = some iC ∧ iC.zero = some zC ∧ iC.size = 3 ∧ iC.bytes = 40 ∧ zC.cells.size = 3) := hII
  have HX2 : Hid (((w.alloc (.cells #[.int .i64 o, .int .i64 m, .slice adk nk ck] 60)).alloc (.cells #[.int .i64 o, .int .i64 m, .slice adk nk ck] 60)).drew.ownsRow lo 60 3 (.slice ad n cap) n xs) := own_keep (own_keep (own_keep HX.out (fun k _ hk => Deep.blk_alloc_lt _ _ _ hk)) (fun k _ hk => Deep.blk_alloc_lt _ _ _ hk)) (fun _ _ _ => rfl)
  clear hII
  go_wp2_with fail
  go_region_law (refine step_append_where rfl (.tmp 9) (.tmp 11) 25 rfl lo 60 iC zC 3 40 Try.underlying25 HII.out.1 HII.out.2.1 HII.out.2.2.1 HII.out.2.2.2.1 HII.out.2.2.2.2 (by decide) (.slice ad n cap) n xs (by simp [Act.eval, Act.put]) HX2.out ⟨w.heap.size + 1, 0, none⟩ 1 1 [.int .i64 o, .int .i64 m, .slice adk nk ck] (by simp [Act.eval, Act.put]) rfl (by have h := news3c (w.alloc (.cells #[.int .i64 o, .int .i64 m, .slice adk nk ck] 60)) (.int .i64 o) (.int .i64 m) (.slice adk nk ck); rw [Deep.nblk_alloc] at h; exact h) (by simp [Value.oneCell']) (by unfold maxLen; omega) (by omega) (by show lo ≤ ((w.alloc _).alloc _).heap.size; simp only [Deep.nblk_alloc]; omega) (by omega) ?_; intro v' w5 hown hg0 hw; have hg := grown_drew hg0; clear hg0; obtain ⟨g', c', rfl, -, -, -, -⟩ := own_form hown (by omega); have s2 := cell_of_blk (arp_keep hT HA.out HX.out hg) q _ HQ.out; have sf := frz_of_blk (arp_keep hT HA.out HX.out hg) q)
  all_goals
    have hn0 : ¬ ((n : Int) + 1 - 1 < 0) := by omega
    have h64 : IntKind.i64.wrap ((n : Int) + 1 - 1) = (n : Int) := by rw [show (n : Int) + 1 - 1 = (n : Int) by omega]; exact IntWalk.i64_in _ (by omega)
    go_wp2_with fail
    go_ret
    exact ⟨_, w5, rfl, hown, hg, hw, rfl⟩
end Go.Proofs.Ytjpjikfmdaejeab
