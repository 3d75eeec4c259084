/-
  THE PROGRAM's semispace IN MEMORY: what its methods do.
-/
import Derived.Test.YtiipcgnkfhjpeaaGreatDoorMgExactStepRun17
import Derived.Test.YtiipcgnkfhjpeaaGreatDoorMgExactStepRun36
import Derived.Test.YtiipcgnkfhjpeaaGreatDoorMgExactStepRun42
import Derived.Test.YtiipcgnkfhjpeaaGreatDoorMgExactStepRun13
import Derived.Test.YtiipcgnkfhjpeaaGreatDoorMgExactStepRun11
import Derived.Deep.LoopGhost
import Derived.Deep.QuietTactic
import Derived.Deep.RegionWith
import Derived.Deep.DeepMust
import Derived.BigQuiet
import Derived.WalkSmall
namespace Go.Proofs.YtiipcgnkfhjpeaaGreatDoor
set_option linter.unusedVariables false
set_option linter.unusedSimpArgs false
open Go.RowKit

/-- a graph in rows of its own, as the texts of the reducer have it -/
theorem GOwn.ownC {w : World} {lo : Nat} {fp : List Nat} {g : List Ce} {v : Value} (h : GOwn w fp g v) (h0 : 0 < g.length) (hf : ∀ k ∈ fp, lo ≤ k) : OwnC w lo (fun b => lo ≤ b) g v := by
  obtain ⟨hi, ad, cap, rfl, l1, l2, h⟩ := h
  rcases h with rfl | ⟨b, kb, rfl, hb, ⟨f, hr, hF⟩, hd⟩
  · simp at h0
  obtain ⟨C, hC, hs, hc⟩ := hr
  have hcl : C.toList.length = cap * 3 := Array.length_toList.trans hs
  have at' : ∀ i, i < g.length * 3 → (C.toList.take (g.length * 3))[i]? = some (f i) := fun i hi2 => by
    rw [List.getElem?_take_of_lt hi2, Array.getElem?_toList]
    exact hc i (by omega)
  refine ⟨hi, C.toList.take (g.length * 3), kb, ⟨by rw [List.length_take, hcl]; omega, Or.inr ⟨b, cap, C, rfl, hf b hb, hC, l1, l2, hs, rfl⟩⟩, fun j hj => ?_, hd⟩
  obtain ⟨e0, e1, ad2, cap2, e2, l3, l4, e5⟩ := hF j hj
  exact ⟨f (j * 3 + 2), by rw [at' _ (by omega), e0], by rw [at' _ (by omega), e1], by rw [at' _ (by omega)], ad2, cap2, e2, l3, l4, e5.imp id fun ⟨f5, r1, r2, r3, r4⟩ => ⟨f5, r1, hf _ r2, r3, r4⟩⟩

/-- the collection that a semispace makes -/
def copyF : Bool → Value
  | true => .func (.func 81) #[] #[]
  | false => .func (.func 80) #[] #[]
/-- a semispace's fields behind its reducer's graph and program -/
def semi (tidy : Bool) : Fu := ⟨0, [copyF tidy], 128, by decide⟩

theorem semiGraph_calls (S A lo : Nat) (c : Value) (fu : Fu) (st : Int) (g : List Ce) (v : Value) (w : World) (h : RedW S A lo c fu st g w) (hA : w.heap[A]? = some (.cells #[v] 142)) :
    Calls Tryz.prog 144 #[.pointer (some ⟨S, 0, none⟩)] w fun e w' => e = .returned v ∧ Below w.heap.size w w' := by
  have r0 := cell_of_blk h.red 0 _ rfl
  have a0 := cell_of_blk hA 0 _ rfl
  clear h hA
  go_enter Tryz.func144, Tryz.ntmps144
  go_wp2_with fail
  go_ret
  exact ⟨rfl, Below.refl _ _⟩

theorem semiVal_calls (ds : List Df) (S A lo a : Nat) (c : Value) (fu : Fu) (st : Int) (g : List Ce) (w : World) (h : RedW S A lo c fu st g w) (hd : DIn w ds c) (hg : graphB g ds.length = true) (ha : a < g.length) :
    Calls Tryz.prog 145 #[.pointer (some ⟨S, 0, none⟩), .int .i64 (a : Int)] w fun e w' => e = .returned (.bool (valB (arsOf ds) g a)) ∧ Below w.heap.size w w' := by
  obtain ⟨ad, cap, hA, hC⟩ := h.inn
  have HRR := mkHid h.red
  have HAA := mkHid hA
  have r0 := cell_of_blk h.red 0 _ rfl
  have r1 := cell_of_blk h.red 1 _ rfl
  have a0 := cell_of_blk hA 0 _ rfl
  have HIV : Hid (∀ W : World, Below w.heap.size w W → Calls Tryz.prog 148 #[c, .slice ad g.length cap, .int .i64 (a : Int)] W fun e w' => e = .returned (.bool (valB (arsOf ds) g a)) ∧ Below W.heap.size W w') := fun W hb => isValueCell_calls ds g a c _ W (hd.next hb) (hC.next hb) hg ha
  clear h hd hg ha hA hC
  go_enter Tryz.func145, Tryz.ntmps145
  go_wp2_with fail
  go_region_held3 (fun w' => w'.cell? ⟨S, 0, none⟩ = some (.pointer (some ⟨A, 0, none⟩)) ∧ w'.cell? ⟨S, 1, none⟩ = some c ∧ w'.cell? ⟨A, 0, none⟩ = some (.slice ad g.length cap))
    (first
      | go_keep
      | exact ⟨m0, m1, m2⟩
      | exact ⟨r0, r1, a0⟩)
    (first
      | (go_at_call 148; refine (HIV.out w.drew ((Below.refl _ _).drew)).mono ?_; rintro e w1 ⟨rfl, hb1⟩; have HB1 : Hid (Below w.heap.size w w1) := (Below.refl _ _).drew.trans hb1; have m0 := cell_of_blk ((HB1.out.block _ (Array.getElem?_eq_some_iff.1 HRR.out).1).trans HRR.out) 0 _ rfl; have m1 := cell_of_blk ((HB1.out.block _ (Array.getElem?_eq_some_iff.1 HRR.out).1).trans HRR.out) 1 _ rfl; have m2 := cell_of_blk ((HB1.out.block _ (Array.getElem?_eq_some_iff.1 HAA.out).1).trans HAA.out) 0 _ rfl; clear hb1))
  go_wp2_with fail
  go_ret
  exact ⟨rfl, HB1.out⟩

/-- a graph is moved: the new place, the new graph -/
def MoveD (S A lo : Nat) (c : Value) (tidy : Bool) (g : List Ce) (a : Nat) (w : World) (e : Ending) (w' : World) : Prop :=
  e = .returned (.int .i64 (colA tidy g a : Int)) ∧ RedW S A lo c (semi tidy) 0 (colG tidy g a) w' ∧ Below lo w w' ∧ Kp S A w w'
/-- what either collection does with one root -/
def ColD (tidy : Bool) (g : List Ce) (a : Nat) (w : World) (e : Ending) (w' : World) : Prop :=
  ∃ (gv : Value) (b o : Nat) (cap : Nat), e = .returned (.tuple #[gv, .slice (some ⟨b, o, none⟩) 1 cap, .bool true]) ∧ OwnC w' w.heap.size (fun k => w.heap.size ≤ k) (colG tidy g a) gv ∧ w'.cell? ⟨b, o, none⟩ = some (.int .i64 (colA tidy g a : Int)) ∧ Below w.heap.size w w'
theorem colD_of {ds : List Df} {tidy : Bool} {g : List Ce} {a : Nat} {w : World} {e : Ending} {w' : World} {r : List Ce × List Nat} {ok : Bool} (hg : graphB g ds.length = true) (ha : a < g.length) (hr : r = (colG tidy g a, [colA tidy g a])) (hok : ok = true) (h : OwnGI r ok w e w') : ColD tidy g a w e w' := by
  subst hr hok
  obtain ⟨gv, tv, rfl, ⟨fG, bL, h1, h2, h3, h4, h5⟩, hb⟩ := h
  have h0 := (col_ok tidy hg ha).2
  obtain ⟨ad, cap, e1, e2, e3, e4⟩ := h3.inn
  have e5 : (plI [colA tidy g a]).length = 1 := rfl
  rw [e5] at e1 e2
  rcases e4 with e4 | ⟨bl, off, rfl, -, e6⟩
  · simp [plI] at e4
  · subst e1
    exact ⟨gv, bl, off, cap, rfl, h1.ownC (Nat.lt_of_le_of_lt (Nat.zero_le _) h0) (fun k hk => (h2 k hk).1), e6 0 Nat.zero_lt_one, hb⟩
theorem coll1_calls {ds : List Df} (g : List Ce) (a : Nat) (v rv : Value) (w : World) (hk : CIn w g v) (hg : graphB g ds.length = true) (ha : a < g.length) (hi : IIn w [(a : Int)] rv) :
    Calls Tryz.prog 80 #[v, rv] w (ColD false g a w) :=
  (implColl_calls g [(a : Int)] v rv w hk hi).mono fun e w' h => colD_of hg ha (collO_one hg ha) (rootB_one hg ha) h
theorem tidy1_calls {ds : List Df} (g : List Ce) (a : Nat) (v rv : Value) (w : World) (hk : CIn w g v) (hg : graphB g ds.length = true) (ha : a < g.length) (hi : IIn w [(a : Int)] rv) :
    Calls Tryz.prog 81 #[v, rv] w (ColD true g a w) :=
  (implTidy_calls g [(a : Int)] v rv w hk hi).mono fun e w' h => colD_of hg ha (tidyO_one hg ha) (rootB_one hg ha) h
theorem slice_noInt {w : World} {A o l cap : Nat} {ad : Option Addr} {k : IntKind} {z : Int} {T : TypeId} (hA : w.heap[A]? = some (.cells #[.slice ad l cap] T)) (h : w.cell? ⟨A, o, none⟩ = some (.int k z)) : False := by
  simp only [World.cell?, hA] at h
  cases o with
  | zero => simp at h
  | succ o => simp at h
/-- the arena takes the new graph -/
theorem move_end {S A lo : Nat} {c : Value} {tidy : Bool} {g G : List Ce} {gv : Value} {w w1 : World} (h : RedW S A lo c (semi tidy) 0 g w) (hlo : lo ≤ w.heap.size) (hb : Below w.heap.size w w1) (ho : OwnC w1 w.heap.size (fun k => w.heap.size ≤ k) G gv) :
    RedW S A lo c (semi tidy) 0 G (w1.setCell ⟨A, 0, none⟩ gv) ∧ Below lo w (w1.setCell ⟨A, 0, none⟩ gv) ∧ Kp S A w (w1.setCell ⟨A, 0, none⟩ gv) := by
  have hAl := h.ltA
  have hAS := h.neAR
  have hSl := (Array.getElem?_eq_some_iff.1 h.red).1
  obtain ⟨ad0, cap0, hA, -⟩ := h.are
  have hA1 : w1.heap[A]? = some (.cells #[.slice ad0 g.length cap0] 142) := (hb.block A hAl).trans hA
  have hst : ∀ k, k ≠ A → (w1.setCell ⟨A, 0, none⟩ gv).heap[k]? = w1.heap[k]? := fun k hk => Below.heap_setCell _ _ _ _ hk
  obtain ⟨ad, cap, rfl⟩ := ho.form
  have hAn : (w1.setCell ⟨A, 0, none⟩ (.slice ad G.length cap)).heap[A]? = some (.cells #[.slice ad G.length cap] 142) := by
    simp [World.setCell, Array.getElem?_modify, hA1]
  have hrow : ∀ k, some k = (Value.slice ad G.length cap).ownBlock → w.heap.size ≤ k := fun k hk => by
    obtain ⟨ys, hy⟩ := ho.row
    exact (hy.lt k hk.symm).1
  refine ⟨⟨(hst S hAS.symm).trans ((hb.block S hSl).trans h.red), ⟨ad, cap, hAn, (ho.next (fun _ h _ => h) (fun k hk _ => hst k (by have := hrow k hk; omega)) (fun k hk _ => hst k (by omega))).down hlo (fun k hk => Nat.le_trans hlo hk)⟩, h.loR, h.loA⟩, (hb.mono hlo).setCell h.loA _, ⟨by rw [size_setCell]; exact hb.size, fun j hj hn hja hjs => ⟨(hst j hja).trans (hb.block j hj), fun o n cap2 e => ?_⟩⟩⟩
  rw [hAn] at e
  simp only [Option.some.injEq, Obj.cells.injEq, Array.mk.injEq, List.cons.injEq, Value.slice.injEq, and_true] at e
  have := hrow j (by rw [e.1]; rfl)
  omega

set_option maxRecDepth 100000 in
set_option maxHeartbeats 1600000 in
theorem moveLive_calls (ds : List Df) (S A lo a : Nat) (c : Value) (tidy : Bool) (g : List Ce) (w : World) (h : RedW S A lo c (semi tidy) 0 g w) (hlo : lo ≤ w.heap.size) (hg : graphB g ds.length = true) (ha : a < g.length) :
    Calls Tryz.prog 146 #[.pointer (some ⟨S, 0, none⟩), .int .i64 (a : Int)] w (MoveD S A lo c tidy g a w) := by
  have HW := mkHid h
  obtain ⟨ad, cap, hA, hC⟩ := h.inn
  have HRR := mkHid h.red
  have HAA := mkHid hA
  have HC := mkHid hC
  have HG := mkHid hg
  have HA := mkHid ha
  have HLO := mkHid hlo
  have r0 := cell_of_blk h.red 0 _ rfl
  have r4 := cell_of_blk h.red 4 _ rfl
  have a0 := cell_of_blk hA 0 _ rfl
  clear h hlo hg ha hA hC
  go_enter Tryz.func146, Tryz.ntmps146
  cases tidy with
  | false =>
    replace r4 : w.cell? ⟨S, 4, none⟩ = some (.func (.func 80) #[] #[]) := r4
    have HCO : Hid (Calls Tryz.prog 80 #[.slice ad g.length cap, .slice (some ⟨w.heap.size, 0, none⟩) 1 1] (w.alloc (.cells #[.int .i64 (a : Int)] 3)).drew (ColD false g a (w.alloc (.cells #[.int .i64 (a : Int)] 3)).drew)) :=
      coll1_calls g a _ _ _ ((HC.out.next (box_below _ _)).drew) HG.out HA.out ((one_in w a).drew)
    go_wp2_with fail
    go_region_held3 (fun w' => w'.cell? ⟨S, 0, none⟩ = some (.pointer (some ⟨A, 0, none⟩)) ∧ w'.cell? ⟨S, 4, none⟩ = some (.func (.func 80) #[] #[]) ∧ w'.cell? ⟨A, 0, none⟩ = some (.slice ad g.length cap))
      (first
        | go_keep
        | exact ⟨m0, m1, m2⟩
        | exact ⟨old_cell r0 _, old_cell r4 _, old_cell a0 _⟩
        | exact ⟨r0, r4, a0⟩)
      (first
        | (go_at_call 80; refine HCO.out.mono ?_; rintro e w1 ⟨gv, b, o, cp, rfl, ho, hi, hb1⟩; obtain ⟨adg, capg, rfl⟩ := ho.form; have HB1 : Hid (Below w.heap.size w w1) := (box_below w (.cells #[.int .i64 (a : Int)] 3)).drew.trans (hb1.mono (by show w.heap.size ≤ (w.alloc (.cells #[.int .i64 (a : Int)] 3)).heap.size; rw [Deep.nblk_alloc]; omega)); have m0 := cell_of_blk ((HB1.out.block _ (Array.getElem?_eq_some_iff.1 HRR.out).1).trans HRR.out) 0 _ rfl; have m1 : w1.cell? ⟨S, 4, none⟩ = some (.func (.func 80) #[] #[]) := cell_of_blk ((HB1.out.block _ (Array.getElem?_eq_some_iff.1 HRR.out).1).trans HRR.out) 4 _ rfl; have HA1 := mkHid ((HB1.out.block _ (Array.getElem?_eq_some_iff.1 HAA.out).1).trans HAA.out); have m2 := cell_of_blk HA1.out 0 _ rfl; have HO := mkHid (ho.down (lo' := w.heap.size) (S' := fun k => w.heap.size ≤ k) (by show w.heap.size ≤ (w.alloc (.cells #[.int .i64 (a : Int)] 3)).heap.size; rw [Deep.nblk_alloc]; omega) (fun k hk => Nat.le_trans (by show w.heap.size ≤ (w.alloc (.cells #[.int .i64 (a : Int)] 3)).heap.size; rw [Deep.nblk_alloc]; omega) hk)); have HI := mkHid hi; clear ho hb1))
    have f2 := frz_of_blk HA1.out 0
    have hbA : b ≠ A := by rintro rfl; exact slice_noInt HA1.out HI.out
    have hi2 : (w1.setCell ⟨A, 0, none⟩ (.slice adg (colG false g a).length capg)).cell? ⟨b, o, none⟩ = some (.int .i64 (colA false g a : Int)) := (World.cell?_setCell_far _ _ _ _ (by show A ≠ b; exact hbA.symm)).trans hi
    have HE := mkHid (move_end HW.out HLO.out HB1.out HO.out)
    go_wp2_with fail
    go_ret
    exact ⟨rfl, HE.out⟩
  | true =>
    replace r4 : w.cell? ⟨S, 4, none⟩ = some (.func (.func 81) #[] #[]) := r4
    have HCO : Hid (Calls Tryz.prog 81 #[.slice ad g.length cap, .slice (some ⟨w.heap.size, 0, none⟩) 1 1] (w.alloc (.cells #[.int .i64 (a : Int)] 3)).drew (ColD true g a (w.alloc (.cells #[.int .i64 (a : Int)] 3)).drew)) :=
      tidy1_calls g a _ _ _ ((HC.out.next (box_below _ _)).drew) HG.out HA.out ((one_in w a).drew)
    go_wp2_with fail
    go_region_held3 (fun w' => w'.cell? ⟨S, 0, none⟩ = some (.pointer (some ⟨A, 0, none⟩)) ∧ w'.cell? ⟨S, 4, none⟩ = some (.func (.func 81) #[] #[]) ∧ w'.cell? ⟨A, 0, none⟩ = some (.slice ad g.length cap))
      (first
        | go_keep
        | exact ⟨m0, m1, m2⟩
        | exact ⟨old_cell r0 _, old_cell r4 _, old_cell a0 _⟩
        | exact ⟨r0, r4, a0⟩)
      (first
        | (go_at_call 81; refine HCO.out.mono ?_; rintro e w1 ⟨gv, b, o, cp, rfl, ho, hi, hb1⟩; obtain ⟨adg, capg, rfl⟩ := ho.form; have HB1 : Hid (Below w.heap.size w w1) := (box_below w (.cells #[.int .i64 (a : Int)] 3)).drew.trans (hb1.mono (by show w.heap.size ≤ (w.alloc (.cells #[.int .i64 (a : Int)] 3)).heap.size; rw [Deep.nblk_alloc]; omega)); have m0 := cell_of_blk ((HB1.out.block _ (Array.getElem?_eq_some_iff.1 HRR.out).1).trans HRR.out) 0 _ rfl; have m1 : w1.cell? ⟨S, 4, none⟩ = some (.func (.func 81) #[] #[]) := cell_of_blk ((HB1.out.block _ (Array.getElem?_eq_some_iff.1 HRR.out).1).trans HRR.out) 4 _ rfl; have HA1 := mkHid ((HB1.out.block _ (Array.getElem?_eq_some_iff.1 HAA.out).1).trans HAA.out); have m2 := cell_of_blk HA1.out 0 _ rfl; have HO := mkHid (ho.down (lo' := w.heap.size) (S' := fun k => w.heap.size ≤ k) (by show w.heap.size ≤ (w.alloc (.cells #[.int .i64 (a : Int)] 3)).heap.size; rw [Deep.nblk_alloc]; omega) (fun k hk => Nat.le_trans (by show w.heap.size ≤ (w.alloc (.cells #[.int .i64 (a : Int)] 3)).heap.size; rw [Deep.nblk_alloc]; omega) hk)); have HI := mkHid hi; clear ho hb1))
    have f2 := frz_of_blk HA1.out 0
    have hbA : b ≠ A := by rintro rfl; exact slice_noInt HA1.out HI.out
    have hi2 : (w1.setCell ⟨A, 0, none⟩ (.slice adg (colG true g a).length capg)).cell? ⟨b, o, none⟩ = some (.int .i64 (colA true g a : Int)) := (World.cell?_setCell_far _ _ _ _ (by show A ≠ b; exact hbA.symm)).trans hi
    have HE := mkHid (move_end HW.out HLO.out HB1.out HO.out)
    go_wp2_with fail
    go_ret
    exact ⟨rfl, HE.out⟩
end Go.Proofs.YtiipcgnkfhjpeaaGreatDoor
/-
  THE BEGINNING OF A COUNT (countNodes$1): the node with what it counts itself; nothing that was there is changed.
-/
namespace Go.Proofs.YtiipcgnkfhjpeaaGreatDoor.cntCall
set_option linter.unusedVariables false
set_option linter.unusedSimpArgs false
open Go.RowKit

/-- a function value that tells which nodes are wanted -/
def WantSaid (w0 : World) (vb : Nat) (p : Tr → Bool) : Prop :=
  ∀ (t : Tr) (c : Value) (W : World), Below w0.heap.size w0 W → In W t.kids c → Calls Tryz.prog 159 #[.agg #[.int .i64 t.op, .int .i64 t.num, c]] W fun e w' => e = .returned (.bool (p t)) ∧ Below W.heap.size W w'

set_option maxRecDepth 100000 in
set_option maxHeartbeats 800000 in
theorem begin_calls {w0 : World} {vb : Nat} {p : Tr → Bool} (hw : WantSaid w0 vb p) (x : Addr) (t : Tr) (wb : Nat) (W : World) (hx : LiesAt W (Lt W.heap.size) x t) (hwb : W.cell? ⟨wb, 0, none⟩ = some (.func (.func 159) #[] #[])) (hb : Below w0.heap.size w0 W) :
    Calls Tryz.prog 161 #[.pointer (some x), .pointer (some ⟨wb, 0, none⟩)] W fun e w' => e = .returned (.agg #[.pointer (some x), .int .i64 0, .int .i64 ((if p t then 1 else 0 : Nat) : Int)]) ∧ Below W.heap.size W w' := by
  have HW : Hid (WantSaid w0 vb p) := hw
  have HB : Hid (Below w0.heap.size w0 W) := hb
  obtain ⟨bl, off, a, b, c, rfl, hbl, h0, h1, h2, ht⟩ := hx
  obtain ⟨rfl, rfl, -, -, hk⟩ := trOn_iff.1 ht
  have HK : Hid (In W t.kids c) := hk
  obtain ⟨ad, cap, rfl, -, -, -⟩ := hk
  have hbl' : bl < W.heap.size := hbl
  have hwl : wb < W.heap.size := cell_lt hwb
  clear hw hb ht hbl
  have hq : Hid (∀ W', Below w0.heap.size w0 W' → In W' t.kids (.slice ad t.kids.length cap) → Calls Tryz.prog 159 #[.agg #[.int .i64 t.op, .int .i64 t.num, .slice ad t.kids.length cap]] W' fun e w' => e = .returned (.bool (p t)) ∧ Below W'.heap.size W' w') := fun W' h1 h2 => HW.out t _ W' h1 h2
  cases hp : p t with
  | true =>
    rw [hp] at hq
    clear hp
    go_enter Tryz.func161, Tryz.ntmps161
    go_wp2_with fail
    go_region_with ((go_at_call 159; go_must (refine (hq.out _ ?_ ?_).mono ?_); go_must (exact (HB.out.trans ((box_below W _).mono HB.out.size)).drew); go_must (exact (HK.out.next (box_below W _)).drew); go_must (rintro e w2 ⟨rfl, hb2⟩); go_must (have HB2 : Hid (Below (W.heap.size + 1) (W.alloc (.cells #[.pointer none, .int .i64 0, .int .i64 0] 225)) w2) := (by have h := (Below.refl (W.alloc (.cells #[.pointer none, .int .i64 0, .int .i64 0] 225)).heap.size (W.alloc (.cells #[.pointer none, .int .i64 0, .int .i64 0] 225))).drew.trans hb2; rw [Deep.nblk_alloc] at h; exact h)); clear hb2))
    all_goals
      have c0 := (HB2.out.cell (p := ⟨W.heap.size, 0, none⟩) (Nat.lt_succ_self _)).trans (box_cell W _ _ 0 _ rfl)
      have c1 := (HB2.out.cell (p := ⟨W.heap.size, 1, none⟩) (Nat.lt_succ_self _)).trans (box_cell W _ _ 1 _ rfl)
      have c2 := (HB2.out.cell (p := ⟨W.heap.size, 2, none⟩) (Nat.lt_succ_self _)).trans (box_cell W _ _ 2 _ rfl)
      have hf := fun i => frz_of_blk (w := w2) (b := W.heap.size) ((HB2.out.block _ (Nat.lt_succ_self _)).trans (Deep.blk_alloc_new W _)) i
      have HB3 : Hid (Below W.heap.size W w2) := (box_below W _).trans (HB2.out.mono (Nat.le_succ _))
      go_wp2_with fail
      exact bodyPost_ret (v := .agg #[.pointer (some ⟨bl, off, none⟩), .int .i64 0, .int .i64 1]) (by simp [results, Tryz.results161, go_sem, c0, c1, c2]) rfl ⟨by simp, ((HB3.out.setCell (by simp) _).setCell (by simp) _).setCell (by simp) _⟩
  | false =>
    rw [hp] at hq
    clear hp
    go_enter Tryz.func161, Tryz.ntmps161
    go_wp2_with fail
    go_region_with ((go_at_call 159; go_must (refine (hq.out _ ?_ ?_).mono ?_); go_must (exact (HB.out.trans ((box_below W _).mono HB.out.size)).drew); go_must (exact (HK.out.next (box_below W _)).drew); go_must (rintro e w2 ⟨rfl, hb2⟩); go_must (have HB2 : Hid (Below (W.heap.size + 1) (W.alloc (.cells #[.pointer none, .int .i64 0, .int .i64 0] 225)) w2) := (by have h := (Below.refl (W.alloc (.cells #[.pointer none, .int .i64 0, .int .i64 0] 225)).heap.size (W.alloc (.cells #[.pointer none, .int .i64 0, .int .i64 0] 225))).drew.trans hb2; rw [Deep.nblk_alloc] at h; exact h)); clear hb2))
    all_goals
      have c0 := (HB2.out.cell (p := ⟨W.heap.size, 0, none⟩) (Nat.lt_succ_self _)).trans (box_cell W _ _ 0 _ rfl)
      have c1 := (HB2.out.cell (p := ⟨W.heap.size, 1, none⟩) (Nat.lt_succ_self _)).trans (box_cell W _ _ 1 _ rfl)
      have c2 := (HB2.out.cell (p := ⟨W.heap.size, 2, none⟩) (Nat.lt_succ_self _)).trans (box_cell W _ _ 2 _ rfl)
      have hf := fun i => frz_of_blk (w := w2) (b := W.heap.size) ((HB2.out.block _ (Nat.lt_succ_self _)).trans (Deep.blk_alloc_new W _)) i
      have HB3 : Hid (Below W.heap.size W w2) := (box_below W _).trans (HB2.out.mono (Nat.le_succ _))
      go_wp2_with fail
      exact bodyPost_ret (v := .agg #[.pointer (some ⟨bl, off, none⟩), .int .i64 0, .int .i64 0]) (by simp [results, Tryz.results161, go_sem, c0, c1, c2]) rfl ⟨by simp, ((HB3.out.setCell (by simp) _).setCell (by simp) _).setCell (by simp) _⟩
end Go.Proofs.YtiipcgnkfhjpeaaGreatDoor.cntCall
