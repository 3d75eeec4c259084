/-
  THE PROGRAM's CodeValid AND DecompileCode.
-/
import Derived.Test.YthknbafcnobgdaaImplDc
namespace Go.Proofs.Ythknbafcnobgdaa
set_option linter.unusedVariables false
set_option linter.unusedSimpArgs false
open Go.RowKit

set_option maxHeartbeats 800000 in
theorem implCodeV_calls (cs : List Ins) (vars defs : Int) (c : Value) (w : World) (hk : InsIn w cs c) (hl : cs.length ≤ 1048576) (hw : ∀ c ∈ cs, I64 c.op ∧ I64 c.num) : Calls Try.prog 12 #[c, .int .i64 vars, .int .i64 defs] w fun e w' => e = .returned (.bool (codeB cs vars defs)) ∧ Below w.heap.size w w' := by
  have HQ := mkHid (decompile_calls cs vars defs c w hk hl hw)
  have HV := mkHid (decO_valid (cs := cs) (vars := vars) (defs := defs))
  obtain ⟨r, hr⟩ : ∃ r, r = decO cs vars defs := ⟨_, rfl⟩
  rw [← hr] at HQ HV
  clear hr hw hk
  go_enter Try.func12, Try.ntmps12
  go_wp2_with fail
  refine HQ.out.mono ?_
  rintro e w1 ⟨v, rfl, hf, -, -, hb⟩
  have HB1 : Hid (Below w.heap.size w w1) := hb
  obtain ⟨ad, cap, rfl, -, -, -⟩ := hf.on.btw_in
  clear hb hf
  go_wp2_with fail
  go_ret
  rw [HV.out]
  exact ⟨rfl, HB1.out.trans ((box_below _ _).mono HB1.out.size)⟩

set_option maxHeartbeats 800000 in
theorem implDec_calls (cs : List Ins) (c : Value) (w : World) (hk : InsIn w cs c) (hl : cs.length ≤ 1048576) (hw : ∀ c ∈ cs, I64 c.op ∧ I64 c.num) : Calls Try.prog 23 #[c] w (DecGot (decO cs 4 6) w) := by
  have HB0 : Hid (Below w.heap.size w (w.alloc (.cells #[.int .i64 0, .int .i64 0, .slice none 0 0] 37))) := box_below _ _
  have HQ := mkHid (decompile_calls cs 4 6 c (w.alloc (.cells #[.int .i64 0, .int .i64 0, .slice none 0 0] 37)) (hk.next HB0.out) hl hw)
  obtain ⟨r, hr⟩ : ∃ r, r = decO cs 4 6 := ⟨_, rfl⟩
  rw [← hr] at HQ ⊢
  clear hr hw hk
  go_enter Try.func23, Try.ntmps23
  go_wp2_with fail
  refine HQ.out.mono ?_
  rintro e w1 ⟨v, rfl, hf, h1, h2, hb⟩
  have HF : Hid (Fresh w1 (w.heap.size + 1) r.1.kids v) := by rw [Deep.nblk_alloc] at hf; exact hf
  have HI := mkHid (And.intro h1 h2)
  have hz1 := (hb.block w.heap.size (by rw [Deep.nblk_alloc]; omega)).trans (Deep.blk_alloc_new w (.cells #[.int .i64 0, .int .i64 0, .slice none 0 0] 37))
  have HB1 : Hid (Below w.heap.size w w1) := HB0.out.trans (hb.mono HB0.out.size)
  have r0 := cell_of_blk hz1 0 _ rfl
  have r1 := cell_of_blk hz1 1 _ rfl
  have r2 := cell_of_blk hz1 2 _ rfl
  have rf := fun i => frz_of_blk hz1 i
  obtain ⟨ad, cap, rfl, -, -, -⟩ := hf.on.btw_in
  clear hb hf hz1 h1 h2
  go_wp2_with fail
  refine bodyPost_ret (v := .tuple #[.agg #[.int .i64 r.1.op, .int .i64 r.1.num, .slice ad r.1.kids.length cap], .bool r.2]) (by simp [results, Try.results23, go_sem, r0, r1, r2]) rfl ⟨_, rfl, ?_, HI.out.1, HI.out.2, ?_⟩
  · refine Fresh.mono (lo := w.heap.size + 1) ?_ (Nat.le_succ _) (fun _ _ _ => rfl)
    repeat' (refine Fresh.setCell ?_ (by simp) _)
    exact HF.out
  · repeat' (refine Below.setCell ?_ (by simp) _)
    exact HB1.out
end Go.Proofs.Ythknbafcnobgdaa
