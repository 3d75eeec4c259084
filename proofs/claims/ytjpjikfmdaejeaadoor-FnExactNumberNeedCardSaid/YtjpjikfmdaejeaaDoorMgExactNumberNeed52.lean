/-
  THE PROGRAM's startOf.
-/
import Derived.Test.YtjpjikfmdaejeaaDoorMgExactNumberNeed51
namespace Go.Proofs.YtjpjikfmdaejeaaDoor
set_option linter.unusedVariables false
set_option linter.unusedSimpArgs false
open Go.RowKit

/-- a start: the reducer over the expression's graph, and the cell of the expression -/
def StartD (t : Tr) (p : Value) (f : Int) (w : World) (e : Ending) (w' : World) : Prop :=
  ∃ (R : Nat) (w1 : World), e = .returned (.tuple #[.pointer (some ⟨R, 0, none⟩), .int .i64 ((addT [] t []).2 : Int), .nilIface]) ∧ Below w.heap.size w w1 ∧ Below w1.heap.size w1 w' ∧ RedW R w1.heap.size w1.heap.size p f 0 (addT [] t []).1 w'
/-- the answer of startOf -/
def StartR (ds : List Df) (t : Tr) (p : Value) (f : Int) (aI : Addr) (w : World) (e : Ending) (w' : World) : Prop :=
  (rightF ds t f = true ∧ StartD t p f w e w') ∨ (rightF ds t f = false ∧ e = .returned (.tuple #[.pointer none, .int .i64 0, .iface 183 (.pointer (some aI))]) ∧ Below w.heap.size w w')

/-- the graph behind the fold, in a new reducer -/
theorem red_add {w1 w' : World} {t : Tr} {p : Value} {f : Int} {e : Ending} {W : World} (hW : W = ((w1.alloc (.cells #[.slice none 0 0] 97)).alloc (.cells #[.pointer (some ⟨w1.heap.size, 0, none⟩), p, .int .i64 f, .int .i64 0] 80)).drew)
    (h : FdRes (addT [] t []) w1.heap.size (fun b => w1.heap.size ≤ b) (.slice none 0 0) w1.heap.size W e w') :
    e = .returned (.int .i64 ((addT [] t []).2 : Int)) ∧ Below w1.heap.size w1 w' ∧ RedW (w1.heap.size + 1) w1.heap.size w1.heap.size p f 0 (addT [] t []).1 w' := by
  obtain ⟨gv', rfl, hown, hA, hk, -⟩ := h
  have hz : W.heap.size = w1.heap.size + 1 + 1 := by rw [hW]; exact (Deep.nblk_alloc _ _).trans (by rw [Deep.nblk_alloc])
  have hR : W.heap[w1.heap.size + 1]? = some (.cells #[.pointer (some ⟨w1.heap.size, 0, none⟩), p, .int .i64 f, .int .i64 0] 80) := by
    rw [hW]
    have h2 := Deep.blk_alloc_new (w1.alloc (.cells #[.slice none 0 0] 97)) (.cells #[.pointer (some ⟨w1.heap.size, 0, none⟩), p, .int .i64 f, .int .i64 0] 80)
    rw [Deep.nblk_alloc] at h2
    exact h2
  have hold : ∀ k, k < w1.heap.size → W.heap[k]? = w1.heap[k]? := fun k hk2 => by
    rw [hW]
    exact (Deep.blk_alloc_lt _ _ _ (by rw [Deep.nblk_alloc]; omega)).trans (Deep.blk_alloc_lt _ _ _ hk2)
  have hos : W.os = w1.os ∧ W.tape = w1.tape ∧ W.output = w1.output := by rw [hW]; exact ⟨rfl, rfl, rfl⟩
  refine ⟨rfl, ⟨hk.os.trans hos.1, hk.tape.trans hos.2.1, hk.output.trans hos.2.2, by have := hk.size; omega, fun k hk2 => ?_⟩, ?_⟩
  · exact (hk.block k (by omega) (by simp [Value.ownBlock]) (by omega)).trans (hold k hk2)
  · obtain ⟨ad, cap, rfl⟩ := hown.form
    exact ⟨(hk.block _ (by omega) (by simp [Value.ownBlock]) (by omega)).trans hR, ⟨ad, cap, hA, hown.next (fun k hk2 _ => hk2.elim id (fun h => by omega)) (fun _ _ _ => rfl) (fun _ _ _ => rfl)⟩, by omega, Nat.le_refl _⟩

set_option maxRecDepth 100000 in
set_option maxHeartbeats 1600000 in
theorem startOf_calls (aI : Addr) (ds : List Df) (p : Value) (t : Tr) (c : Value) (f : Int) (w : World) (hI : w.cell? ⟨0, 0, none⟩ = some (.iface 183 (.pointer (some aI)))) (hp : DIn w ds p) (hk : In w t.kids c) (ht : I64 t.op ∧ I64 t.num) :
    Calls Tryd.prog 38 #[p, .agg #[.int .i64 t.op, .int .i64 t.num, c], .int .i64 f] w (StartR ds t p f aI w) := by
  have HK : Hid (In w t.kids c) := hk
  have HP : Hid (DIn w ds p) := hp
  have HT := mkHid ht
  have HI := mkHid hI
  obtain ⟨ad, cap, rfl, -, -, -⟩ := hk
  obtain ⟨adp, capp, rfl, -, -, -⟩ := id hp
  have HBX : Hid (Below w.heap.size w (w.alloc (.cells #[.int .i64 t.op, .int .i64 t.num, .slice ad t.kids.length cap] 34))) := box_below _ _
  have HXB : Hid ((w.alloc (.cells #[.int .i64 t.op, .int .i64 t.num, .slice ad t.kids.length cap] 34)).heap[w.heap.size]? = some (.cells #[.int .i64 t.op, .int .i64 t.num, .slice ad t.kids.length cap] 34)) := Deep.blk_alloc_new _ _
  have HXL : Hid (w.heap.size < (w.alloc (.cells #[.int .i64 t.op, .int .i64 t.num, .slice ad t.kids.length cap] 34)).heap.size) := by rw [Hid, Deep.nblk_alloc]; omega
  clear hp ht hI
  go_enter Tryd.func38, Tryd.ntmps38
  go_wp2_with fail
  refine (canEvaluate_calls ds _ t _ f _ (HP.out.next HBX.out) (HK.out.next HBX.out)).mono ?_
  rintro e w1 ⟨rfl, hb1⟩
  have HB1 : Hid (Below w.heap.size w w1) := HBX.out.trans (hb1.mono HBX.out.size)
  have HX1 : Hid (w1.heap[w.heap.size]? = some (.cells #[.int .i64 t.op, .int .i64 t.num, .slice ad t.kids.length cap] 34)) := (hb1.block _ HXL.out).trans HXB.out
  clear hb1
  cases hr : rightF ds t f with
  | false =>
    have HR := mkHid hr
    have gi := (HB1.out.cell (cell_lt HI.out)).trans HI.out
    clear hr
    go_wp2_with fail
    go_quiet (fail)
    go_wp2_with fail
    go_ret3
    exact Or.inr ⟨HR.out, rfl, below_drewN HB1.out _⟩
  | true =>
    have HR := mkHid hr
    have HOK := mkHid (start_ok (rightF_iff.1 hr).1)
    clear hr
    go_wp2_with fail
    refine (arena0 w1).mono ?_
    rintro e w2 ⟨rfl, rfl⟩
    have HRA : Hid (∀ e w', FdRes (addT [] t []) w1.heap.size (fun b => w1.heap.size ≤ b) (.slice none 0 0) w1.heap.size ((w1.alloc (.cells #[.slice none 0 0] 97)).alloc (.cells #[.pointer (some ⟨w1.heap.size, 0, none⟩), .slice adp ds.length capp, .int .i64 f, .int .i64 0] 80)).drew e w' → e = .returned (.int .i64 ((addT [] t []).2 : Int)) ∧ Below w1.heap.size w1 w' ∧ RedW (w1.heap.size + 1) w1.heap.size w1.heap.size (.slice adp ds.length capp) f 0 (addT [] t []).1 w') := fun e w' h => red_add rfl h
    have HZ : Hid ((w1.alloc (.cells #[.slice none 0 0] 97)).heap.size = w1.heap.size + 1) := Deep.nblk_alloc _ _
    have HBR : Hid (Below w1.heap.size w1 ((w1.alloc (.cells #[.slice none 0 0] 97)).alloc (.cells #[.pointer (some ⟨w1.heap.size, 0, none⟩), .slice adp ds.length capp, .int .i64 f, .int .i64 0] 80)).drew) := ((box_below w1 _).alloc (by rw [Deep.nblk_alloc]; omega) _).drew
    have HAD : Hid (Calls Tryd.prog 57 #[.pointer (some ⟨w1.heap.size, 0, none⟩), .agg #[.int .i64 t.op, .int .i64 t.num, .slice ad t.kids.length cap], .slice none 0 0] ((w1.alloc (.cells #[.slice none 0 0] 97)).alloc (.cells #[.pointer (some ⟨w1.heap.size, 0, none⟩), .slice adp ds.length capp, .int .i64 f, .int .i64 0] 80)).drew (FdRes (addT [] t []) w1.heap.size (fun b => w1.heap.size ≤ b) (.slice none 0 0) w1.heap.size ((w1.alloc (.cells #[.slice none 0 0] 97)).alloc (.cells #[.pointer (some ⟨w1.heap.size, 0, none⟩), .slice adp ds.length capp, .int .i64 f, .int .i64 0] 80)).drew)) :=
      ax_calls [] t (.slice none 0 0) (.slice ad t.kids.length cap) none 0 0 w1.heap.size w1.heap.size _ [] _ (OwnC.nil _ _ _) ((Deep.blk_alloc_lt _ _ _ (by rw [Deep.nblk_alloc]; omega)).trans (Deep.blk_alloc_new _ _)) HBR.out.size (Nat.le_refl _) ⟨none, 0, rfl, Nat.le_refl _, by simp [maxLen], Or.inl rfl⟩ ((HK.out.next HB1.out).mono (fun _ h => h) fun k hk => HBR.out.block k hk) (by have := HOK.out.2.2.2.2; simp; omega) (by simp) HT.out.1 HT.out.2 HOK.out.2.2.2.1
    obtain ⟨R, hRe⟩ : ∃ R, R = w1.heap.size + 1 := ⟨_, rfl⟩
    have HRE := mkHid hRe
    rw [← hRe] at HRA
    have r0 : ((w1.alloc (.cells #[.slice none 0 0] 97)).alloc (.cells #[.pointer (some ⟨w1.heap.size, 0, none⟩), .slice adp ds.length capp, .int .i64 f, .int .i64 0] 80)).cell? ⟨R, 0, none⟩ = some (.pointer (some ⟨w1.heap.size, 0, none⟩)) := by
      have h2 := Deep.blk_alloc_new (w1.alloc (.cells #[.slice none 0 0] 97)) (.cells #[.pointer (some ⟨w1.heap.size, 0, none⟩), .slice adp ds.length capp, .int .i64 f, .int .i64 0] 80)
      rw [HZ.out, ← hRe] at h2
      exact cell_of_blk h2 0 _ rfl
    have b0 := old_cell (old_cell (cell_of_blk HX1.out 0 _ rfl) (.cells #[.slice none 0 0] 97)) (.cells #[.pointer (some ⟨w1.heap.size, 0, none⟩), .slice adp ds.length capp, .int .i64 f, .int .i64 0] 80)
    have b1 := old_cell (old_cell (cell_of_blk HX1.out 1 _ rfl) (.cells #[.slice none 0 0] 97)) (.cells #[.pointer (some ⟨w1.heap.size, 0, none⟩), .slice adp ds.length capp, .int .i64 f, .int .i64 0] 80)
    have b2 := old_cell (old_cell (cell_of_blk HX1.out 2 _ rfl) (.cells #[.slice none 0 0] 97)) (.cells #[.pointer (some ⟨w1.heap.size, 0, none⟩), .slice adp ds.length capp, .int .i64 f, .int .i64 0] 80)
    have hRz := HZ.out.trans hRe.symm
    clear hRe
    go_wp2_with fail
    go_region_held3 (fun w' => w'.cell? ⟨R, 0, none⟩ = some (.pointer (some ⟨w1.heap.size, 0, none⟩)) ∧ w'.cell? ⟨w.heap.size, 0, none⟩ = some (.int .i64 t.op) ∧ w'.cell? ⟨w.heap.size, 1, none⟩ = some (.int .i64 t.num) ∧ w'.cell? ⟨w.heap.size, 2, none⟩ = some (.slice ad t.kids.length cap))
      (first
        | go_keep
        | exact ⟨m0, m1, m2, m3⟩
        | exact ⟨r0, b0, b1, b2⟩)
      (first
        | (go_at_call 57; refine HAD.out.mono ?_; intro e w3 he; obtain ⟨rfl, hb3, hw3⟩ := HRA.out e w3 he; have m0 := cell_of_blk hw3.red 0 _ rfl; have m1 := (hb3.cell (cell_lt (cell_of_blk HX1.out 0 _ rfl))).trans (cell_of_blk HX1.out 0 _ rfl); have m2 := (hb3.cell (cell_lt (cell_of_blk HX1.out 1 _ rfl))).trans (cell_of_blk HX1.out 1 _ rfl); have m3 := (hb3.cell (cell_lt (cell_of_blk HX1.out 2 _ rfl))).trans (cell_of_blk HX1.out 2 _ rfl); have HB3 := mkHid hb3; have HW3 := mkHid hw3; clear hb3 hw3 he))
    go_wp2_with fail
    go_ret3
    exact Or.inl ⟨HR.out, R, w1, rfl, HB1.out, HB3.out, HW3.out⟩
end Go.Proofs.YtjpjikfmdaejeaaDoor
