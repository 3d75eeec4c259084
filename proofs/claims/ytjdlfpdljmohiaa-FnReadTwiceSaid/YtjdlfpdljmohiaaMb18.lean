/-
  THE PROGRAM's addExpr in an arena, and arenaOf at no graph.
-/
import Derived.Test.YtjdlfpdljmohiaaMb17
import Derived.Test.YtjdlfpdljmohiaaMb9
import Derived.Test.YtjdlfpdljmohiaaMb13
import Derived.Test.YtjdlfpdljmohiaaMb6
namespace Go.Proofs.Ytjdlfpdljmohiaa
set_option linter.unusedVariables false
set_option linter.unusedSimpArgs false
open Go.RowKit

theorem OwnC.down {w : World} {lo lo' : Nat} {S S' : Nat → Prop} {g : List Ce} {v : Value} (h : OwnC w lo S g v) (hl : lo' ≤ lo) (hS : ∀ k, S k → S' k) : OwnC w lo' S' g v := by
  obtain ⟨hi0, xs, kb, h1, h2, h3⟩ := h.next (S' := S') (fun k hk _ => hS k hk) (fun _ _ _ => rfl) (fun _ _ _ => rfl)
  refine ⟨hi0, xs, kb, ⟨h1.1, ?_⟩, h2, h3⟩
  rcases h1.2 with h | ⟨b, cap, cur, rfl, hg, r⟩
  · exact Or.inl h
  · exact Or.inr ⟨b, cap, cur, rfl, Nat.le_trans hl hg, r⟩
theorem fdRes_down {r : List Ce × Nat} {lo A : Nat} {S : Nat → Prop} {gv : Value} {w W : World} {e : Ending} {w' : World} (h : FdRes r lo S gv A W e w') (hb : Below w.heap.size w W) : FdRes r lo S gv A w e w' := by
  obtain ⟨gv', h1, h2, h3, h4, h5⟩ := h
  have hs := hb.size
  refine ⟨gv', h1, h2.next (fun b hb _ => hb.imp id fun h => by omega) (fun _ _ _ => rfl) (fun _ _ _ => rfl), h3, ⟨h4.os.trans hb.os, h4.tape.trans hb.tape, h4.output.trans hb.output, Nat.le_trans hs h4.size, fun k hk hn hne => (h4.block k (by omega) hn hne).trans (hb.block k hk)⟩, ?_⟩
  rcases h5 with e | ⟨g, e, hg⟩
  · exact Or.inl e
  · exact Or.inr ⟨g, e, by omega⟩

set_option maxRecDepth 100000 in
set_option maxHeartbeats 1600000 in
theorem ax_callsT (args : List Nat) (t : Tr) (gv c : Value) (ada : Option Addr) (na ca : Nat) (lo A : Nat) (S T : Nat → Prop) (cs : List Ce) (w : World) (hg : OwnC w lo S cs gv) (hA : w.heap[A]? = some (.cells #[gv] 89))
    (hlo : lo ≤ w.heap.size) (hT : Free T w A gv) (ha : IntsOn w T (args.map fun (a : Nat) => (a : Int)) (.slice ada na ca)) (hk : KidsOn w T t.kids c) (hz : cs.length + szT t ≤ 500000) (hal : args.length ≤ 1048576) (ho : I64 t.op) (hn : I64 t.num) (hp : AllT (VarOk args.length) t) :
    Calls Try.prog 64 #[.pointer (some ⟨A, 0, none⟩), .agg #[.int .i64 t.op, .int .i64 t.num, c], .slice ada na ca] w (FdRes (addT args t cs) lo S gv A w) := by
  have hAl : A < w.heap.size := (Array.getElem?_eq_some_iff.1 hA).1
  have hkeep : ∀ o1 o2 o3 b, b < w.heap.size → (((w.alloc o1).alloc o2).alloc o3).heap[b]? = w.heap[b]? := fun o1 o2 o3 b hb => (Deep.blk_alloc_lt _ _ _ (by rw [Deep.nblk_alloc, Deep.nblk_alloc]; omega)).trans ((Deep.blk_alloc_lt _ _ _ (by rw [Deep.nblk_alloc]; omega)).trans (Deep.blk_alloc_lt _ _ _ hb))
  have hbw : Below w.heap.size w (((w.alloc (.cells #[.pointer (some ⟨A, 0, none⟩)] 85)).alloc (.cells #[.int .i64 t.op, .int .i64 t.num, c] 30)).alloc (.cells #[.slice ada na ca] 33)) := (((box_below w _).alloc (by rw [Deep.nblk_alloc]; omega) _).alloc (by rw [Deep.nblk_alloc, Deep.nblk_alloc]; omega) _)
  have hc := fd_calls args (.slice ada na ca) t gv c lo A (w.heap.size + 1 + 1) w.heap.size S T cs (((w.alloc (.cells #[.pointer (some ⟨A, 0, none⟩)] 85)).alloc (.cells #[.int .i64 t.op, .int .i64 t.num, c] 30)).alloc (.cells #[.slice ada na ca] 33))
    (hg.next (fun _ h _ => h) (fun b _ hb => hkeep _ _ _ b hb) (fun b _ hb => hkeep _ _ _ b hb)) ((hkeep _ _ _ A hAl).trans hA)
    (by have h := Deep.blk_alloc_new ((w.alloc (.cells #[.pointer (some ⟨A, 0, none⟩)] 85)).alloc (.cells #[.int .i64 t.op, .int .i64 t.num, c] 30)) (.cells #[.slice ada na ca] 33); rw [Deep.nblk_alloc, Deep.nblk_alloc] at h; exact h)
    ((Deep.blk_alloc_lt _ _ _ (by rw [Deep.nblk_alloc, Deep.nblk_alloc]; omega)).trans ((Deep.blk_alloc_lt _ _ _ (by rw [Deep.nblk_alloc]; omega)).trans (Deep.blk_alloc_new _ _)))
    (by rw [Deep.nblk_alloc, Deep.nblk_alloc, Deep.nblk_alloc]; omega) (fun b hb => ⟨by have := (hT b hb).1; rw [Deep.nblk_alloc, Deep.nblk_alloc, Deep.nblk_alloc]; omega, (hT b hb).2⟩) (ha.mono (fun _ h => h) (fun b hb => hkeep _ _ _ b (hT b hb).1)) (hk.mono (fun _ h => h) (fun b hb => hkeep _ _ _ b (hT b hb).1)) hz hal ho hn hp
  have HC := mkHid (hc.mono fun e w' h => fdRes_down h hbw)
  clear hc hbw hkeep hg hA ha hk hp ho hn
  go_enter Try.func64, Try.ntmps64
  go_wp2_with fail
  refine HC.out.mono ?_
  intro e w' hr
  have HR := hr
  obtain ⟨gv', rfl, -⟩ := hr
  have HR := mkHid HR
  go_wp2_with fail
  go_ret
  exact HR.out

theorem ax_calls (args : List Nat) (t : Tr) (gv c : Value) (ada : Option Addr) (na ca : Nat) (lo A : Nat) (S : Nat → Prop) (cs : List Ce) (w : World) (hg : OwnC w lo S cs gv) (hA : w.heap[A]? = some (.cells #[gv] 89))
    (hlo : lo ≤ w.heap.size) (hlA : lo ≤ A) (ha : IntsOn w (Lt lo) (args.map fun (a : Nat) => (a : Int)) (.slice ada na ca)) (hk : KidsOn w (Lt lo) t.kids c) (hz : cs.length + szT t ≤ 500000) (hal : args.length ≤ 1048576) (ho : I64 t.op) (hn : I64 t.num) (hp : AllT (VarOk args.length) t) :
    Calls Try.prog 64 #[.pointer (some ⟨A, 0, none⟩), .agg #[.int .i64 t.op, .int .i64 t.num, c], .slice ada na ca] w (FdRes (addT args t cs) lo S gv A w) :=
  ax_callsT args t gv c ada na ca lo A S (Lt lo) cs w hg hA hlo (fun b hb => ⟨Nat.lt_of_lt_of_le hb hlo, fun e => by obtain ⟨ys, hy⟩ := hg.row; have := (own_some hy b e.symm).1; have h2 : b < lo := hb; omega, fun e => by have h2 : b < lo := hb; omega⟩) ha hk hz hal ho hn hp

set_option maxRecDepth 100000 in
set_option maxHeartbeats 1600000 in
theorem arena0 (w : World) : Calls Try.prog 63 #[.slice none 0 0] w fun e w' => e = .returned (.pointer (some ⟨w.heap.size, 0, none⟩)) ∧ w' = w.alloc (.cells #[.slice none 0 0] 89) := by
  go_enter Try.func63, Try.ntmps63
  go_wp2_with fail
  go_loopw [10] (fun i wr => i = .int .i64 0 ∧ wr = w.alloc (.cells #[.slice none 0 0] 89)) (fun i _ => 0)
  case atStart => exact ⟨rfl, rfl⟩
  case round =>
    obtain ⟨rfl, rfl⟩ := hrel
    go_wp2_with fail
    go_ret
    exact ⟨rfl, rfl⟩

end Go.Proofs.Ytjdlfpdljmohiaa
/-
  THE PROGRAM's AddExpr at no graph.
-/
namespace Go.Proofs.Ytjdlfpdljmohiaa
set_option linter.unusedVariables false
set_option linter.unusedSimpArgs false
open Go.RowKit

set_option maxRecDepth 100000 in
set_option maxHeartbeats 1600000 in
theorem implAdd0_calls (t : Tr) (defs : Int) (c : Value) (w : World) (hk : In w t.kids c) (ho : I64 t.op) (hn : I64 t.num) :
    Calls Try.prog 33 #[.slice none 0 0, .agg #[.int .i64 t.op, .int .i64 t.num, c], .slice none 0 0, .int .i64 defs] w (AddOut (addOut [] t [] defs) w) := by
  have HK : Hid (In w t.kids c) := hk
  have HT : Hid (I64 t.op ∧ I64 t.num) := ⟨ho, hn⟩
  obtain ⟨ad, cap, rfl, -, hm, -⟩ := hk
  unfold maxLen at hm
  clear ho hn
  go_enter Try.func33, Try.ntmps33
  go_wp2_with fail
  refine (implGraph_calls [] defs _ _ ⟨none, 0, rfl, Nat.le_refl _, by simp [maxLen], Or.inl rfl⟩).mono ?_
  rintro e w1 ⟨rfl, hb1⟩
  have HB1 : Hid (Below w.heap.size w w1) := (box_below _ _).trans (hb1.mono (by rw [Deep.nblk_alloc]; omega))
  have hz1 : w.heap.size < w1.heap.size := by have := hb1.size; rw [Deep.nblk_alloc] at this; omega
  have hr1 : w1.heap[w.heap.size]? = some (.cells #[.int .i64 t.op, .int .i64 t.num, .slice ad t.kids.length cap] 30) := (hb1.block _ (by rw [Deep.nblk_alloc]; omega)).trans (Deep.blk_alloc_new _ _)
  have HR1 : Hid (w1.heap[w.heap.size]? = some (.cells #[.int .i64 t.op, .int .i64 t.num, .slice ad t.kids.length cap] 30)) := hr1
  have r0 := cell_of_blk hr1 0 _ rfl
  have r1 := cell_of_blk hr1 1 _ rfl
  have r2 := cell_of_blk hr1 2 _ rfl
  clear hb1 hr1
  by_cases hg : graphB [] defs = true
  · rw [hg]
    clear hg
    go_wp2_with fail
    have hval := implValid_calls t 0 defs (.slice ad t.kids.length cap) w1 (HK.out.next HB1.out)
    refine hval.mono ?_
    rintro e w2 ⟨rfl, hb2⟩
    have HB2 : Hid (Below w.heap.size w w2) := HB1.out.trans (hb2.mono HB1.out.size)
    have hz2 : w.heap.size < w2.heap.size := by have := hb2.size; omega
    have hr2 : w2.heap[w.heap.size]? = some (.cells #[.int .i64 t.op, .int .i64 t.num, .slice ad t.kids.length cap] 30) := (hb2.block _ hz1).trans HR1.out
    have HR2 : Hid (w2.heap[w.heap.size]? = some (.cells #[.int .i64 t.op, .int .i64 t.num, .slice ad t.kids.length cap] 30)) := hr2
    clear hb2 hval r0 r1 r2
    by_cases hv : validB t 0 defs = true
    · have hv' := hv
      unfold validB at hv'
      simp only [Bool.and_eq_true, decide_eq_true_eq] at hv'
      have HV : Hid (addOut [] t [] defs = ((addT [] t []).1, (addT [] t []).2, true)) := by rw [Hid, addOut_closed, if_pos hv]
      have HP : Hid (AllT (VarOk 0) t) := varOk_of_sh 0 defs 16 t hv'.2.1
      have HSZ : Hid (1 + szT t ≤ 60) := hv'.2.2
      rw [hv]
      clear hv hv' hr2
      go_wp2_with fail
      refine (areCells_calls 0 0 none [] _ w2 (by omega) ⟨none, 0, rfl, Nat.le_refl _, by simp [maxLen], Or.inl rfl⟩).mono ?_
      rintro e w3 ⟨rfl, hb3⟩
      have HB3 : Hid (Below w.heap.size w w3) := HB2.out.trans (hb3.mono HB2.out.size)
      have hz3 : w.heap.size < w3.heap.size := by have := hb3.size; omega
      have hr3 : w3.heap[w.heap.size]? = some (.cells #[.int .i64 t.op, .int .i64 t.num, .slice ad t.kids.length cap] 30) := (hb3.block _ hz2).trans HR2.out
      have HR3 : Hid (w3.heap[w.heap.size]? = some (.cells #[.int .i64 t.op, .int .i64 t.num, .slice ad t.kids.length cap] 30)) := hr3
      rw [show ([] : List Int).all (isAt ((0 : Nat) : Int)) = true from rfl]
      clear hb3 hr3
      go_wp2_with fail
      refine (arena0 w3).mono ?_
      rintro e w4 ⟨rfl, hw4⟩
      have hr4 : w4.heap[w.heap.size]? = some (.cells #[.int .i64 t.op, .int .i64 t.num, .slice ad t.kids.length cap] 30) := by rw [hw4]; exact (Deep.blk_alloc_lt _ _ _ hz3).trans HR3.out
      have HZ4 : Hid (w4.heap.size = w3.heap.size + 1) := by rw [Hid, hw4, Deep.nblk_alloc]
      have HB4 : Hid (Below w.heap.size w w4) := by rw [hw4]; exact HB3.out.alloc HB3.out.size _
      have HA4 : Hid (w4.heap[w3.heap.size]? = some (.cells #[.slice none 0 0] 89)) := by rw [Hid, hw4]; exact Deep.blk_alloc_new _ _
      have r0 := cell_of_blk hr4 0 _ rfl
      have r1 := cell_of_blk hr4 1 _ rfl
      have r2 := cell_of_blk hr4 2 _ rfl
      clear hr4 hw4
      have hc := ax_calls [] t (.slice none 0 0) (.slice ad t.kids.length cap) none 0 0 w.heap.size w3.heap.size (fun b => w.heap.size ≤ b) [] w4 (OwnC.nil _ _ _) HA4.out (by have := HZ4.out; omega) (by omega) ⟨none, 0, rfl, Nat.le_refl _, by simp [maxLen], Or.inl rfl⟩ (HK.out.mono (fun _ h => h) (fun b hb => HB4.out.block b hb)) (by have := HSZ.out; simp only [List.length_nil]; omega) (by simp) HT.out.1 HT.out.2 HP.out
      have HC := mkHid hc
      clear hc
      go_wp2_with fail
      refine HC.out.mono ?_
      rintro e w5 ⟨gv', rfl, hg5, hA5, hk5, -⟩
      have HG5 : Hid (OwnC w5 w.heap.size (fun b => w.heap.size ≤ b) (addT [] t []).1 gv') := hg5.next (fun b hb _ => by rcases hb with hb | hb; exact hb; have := HZ4.out; omega) (fun _ _ _ => rfl) (fun _ _ _ => rfl)
      have HB5 : Hid (Below w.heap.size w w5) := ⟨hk5.os.trans HB4.out.os, hk5.tape.trans HB4.out.tape, hk5.output.trans HB4.out.output, Nat.le_trans HB4.out.size hk5.size, fun b hb => (hk5.block b (by have := HZ4.out; omega) (by simp [Value.ownBlock]) (by omega)).trans (HB4.out.block b hb)⟩
      obtain ⟨adg, capg, rfl⟩ := hg5.form
      have p0 := cell_of_blk hA5 0 _ rfl
      have hle : (addT [] t []).1.length ≤ 400 := by have h := (addT_size [] t []).2.1; have := HSZ.out; simp only [List.length_nil] at h; omega
      have hle2 : ¬ ((400 : Int) < ((addT [] t []).1.length : Int)) := by omega
      clear hg5 hA5 hk5
      go_wp2_with fail
      refine bodyPost_ret (v := .tuple #[.slice adg (addT [] t []).1.length capg, .int .i64 ((addT [] t []).2 : Int), .bool true]) (by simp [results, Try.results33, go_sem]) rfl ?_
      rw [HV.out]
      exact ⟨_, rfl, HG5.out, HB5.out⟩
    · have HV : Hid (addOut [] t [] defs = ([], 0, false)) := by rw [Hid, addOut_closed, if_neg hv]
      rw [Bool.not_eq_true] at hv
      rw [hv]
      clear hv hr2
      go_wp2_with fail
      refine bodyPost_ret (v := .tuple #[.slice none 0 0, .int .i64 0, .bool false]) (by simp [results, Try.results33, go_sem]) rfl ?_
      rw [HV.out]
      exact ⟨_, rfl, OwnC.nil _ _ _, HB2.out⟩
  · have HV : Hid (addOut [] t [] defs = ([], 0, false)) := addOut_no fun h => hg h.1
    rw [Bool.not_eq_true] at hg
    rw [hg]
    clear hg
    go_wp2_with fail
    refine bodyPost_ret (v := .tuple #[.slice none 0 0, .int .i64 0, .bool false]) (by simp [results, Try.results33, go_sem]) rfl ?_
    rw [HV.out]
    exact ⟨_, rfl, OwnC.nil _ _ _, HB1.out⟩

end Go.Proofs.Ytjdlfpdljmohiaa
/-
  THE PROGRAM's BuildGraph (AddExpr at no graph).
-/
namespace Go.Proofs.Ytjdlfpdljmohiaa
set_option linter.unusedVariables false
set_option linter.unusedSimpArgs false
open Go.RowKit

set_option maxRecDepth 100000 in
set_option maxHeartbeats 1600000 in
theorem implBuild_calls (t : Tr) (defs : Int) (c : Value) (w : World) (hk : In w t.kids c) (ho : I64 t.op) (hn : I64 t.num) :
    Calls Try.prog 28 #[.agg #[.int .i64 t.op, .int .i64 t.num, c], .int .i64 defs] w (AddOut (addOut [] t [] defs) w) := by
  have HK : Hid (In w t.kids c) := hk
  have HT : Hid (I64 t.op ∧ I64 t.num) := ⟨ho, hn⟩
  obtain ⟨ad, cap, rfl, -, hm, -⟩ := hk
  unfold maxLen at hm
  clear ho hn
  go_enter Try.func28, Try.ntmps28
  go_wp2_with fail
  refine (implAdd0_calls t defs _ _ (HK.out.next (box_below _ _)) HT.out.1 HT.out.2).mono ?_
  rintro e w1 ⟨v, rfl, h1, h2⟩
  have HG : Hid (OwnC w1 w.heap.size (fun b => w.heap.size ≤ b) (addOut [] t [] defs).1 v) := h1.down (by rw [Deep.nblk_alloc]; omega) (fun b hb => by rw [Deep.nblk_alloc] at hb; omega)
  have HB : Hid (Below w.heap.size w w1) := (box_below _ _).trans (h2.mono (by rw [Deep.nblk_alloc]; omega))
  clear h1 h2
  go_wp2_with fail
  refine bodyPost_ret (v := .tuple #[v, .int .i64 ((addOut [] t [] defs).2.1 : Int), .bool (addOut [] t [] defs).2.2]) (by simp [results, Try.results28, go_sem]) rfl ?_
  exact ⟨v, rfl, HG.out, HB.out⟩
end Go.Proofs.Ytjdlfpdljmohiaa
