/-
  THE PROGRAM's canCopy, CopyGraph AND CopyOrder.
-/
import Derived.Test.YtjpjikfmdaejeaaImplCf
import Derived.Test.YtjpjikfmdaejeaaImplGraph
import Derived.Test.YtjpjikfmdaejeaaOneRow
namespace Go.Proofs.Ytjpjikfmdaejeaa
set_option linter.unusedVariables false
set_option linter.unusedSimpArgs false
open Go.RowKit

set_option maxHeartbeats 800000 in
theorem canCopy_calls (g : List Ce) (rs : List Int) (v rv : Value) (w : World) (hk : CIn w g v) (hr : IIn w rs rv) :
    Calls Try.prog 31 #[v, rv] w fun e w' => e = .returned (.bool (rootB g rs)) ∧ Below w.heap.size w w' := by
  have HK : Hid (CIn w g v) := hk
  have HR : Hid (IIn w rs rv) := hr
  obtain ⟨ad, cap, rfl, hl, hm, -⟩ := hk
  obtain ⟨adr, capr, rfl, hlr, hmr, -⟩ := hr
  unfold maxLen at hm hmr
  go_enter Try.func31, Try.ntmps31
  go_wp2_with fail
  refine (implGraph_calls g 6 _ _ HK.out).mono ?_
  rintro e w1 ⟨rfl, hb1⟩
  have HB1 : Hid (Below w.heap.size w w1) := hb1
  clear hb1
  cases hg : graphB g 6 with
  | false =>
    have HV : Hid (rootB g rs = false) := by unfold Hid rootB; rw [hg]; rfl
    clear hg
    go_wp2_with fail
    go_ret
    exact ⟨ret_bool HV.out.symm, HB1.out⟩
  | true =>
    have HG : Hid (graphB g 6 = true) := hg
    clear hg
    by_cases h20 : (rs.length : Int) ≤ 20
    · have HV : Hid (rootB g rs = rs.all (isAt g.length)) := by unfold Hid rootB; rw [HG.out, decide_eq_true (by omega)]; rfl
      go_wp2_with fail
      refine (areCells_calls g.length cap ad rs _ _ (by omega) (HR.out.next HB1.out)).mono ?_
      rintro e w2 ⟨rfl, hb2⟩
      have HB2 : Hid (Below w.heap.size w w2) := HB1.out.trans (hb2.mono HB1.out.size)
      clear hb2
      go_wp2_with fail
      go_ret
      exact ⟨ret_bool HV.out.symm, HB2.out⟩
    · have HV : Hid (rootB g rs = false) := by unfold Hid rootB; rw [decide_eq_false (by omega)]; simp
      go_wp2_with fail
      go_ret
      exact ⟨ret_bool HV.out.symm, HB1.out⟩

/-- a graph and numbers in rows of their own, and whether -/
def OwnGI (r : List Ce × List Nat) (ok : Bool) (w : World) (e : Ending) (w' : World) : Prop :=
  ∃ gv tv, e = .returned (.tuple #[gv, tv, .bool ok]) ∧ GIRes r.1 (plI r.2) gv tv w w' ∧ Below w.heap.size w w'

set_option maxHeartbeats 800000 in
theorem implCopyG_calls (g : List Ce) (rs : List Int) (v rv : Value) (w : World) (hk : CIn w g v) (hr : IIn w rs rv) :
    Calls Try.prog 12 #[v, rv] w (OwnGI (copyO g rs) (rootB g rs) w) := by
  have HK : Hid (CIn w g v) := hk
  have HR : Hid (IIn w rs rv) := hr
  clear hk hr
  go_enter Try.func12, Try.ntmps12
  go_wp2_with fail
  refine (canCopy_calls g rs _ _ _ HK.out HR.out).mono ?_
  rintro e w1 ⟨rfl, hb1⟩
  have HB1 : Hid (Below w.heap.size w w1) := hb1
  clear hb1
  cases hg : rootB g rs with
  | false =>
    have HV := mkHid (copyO_no hg)
    have HT := mkHid hg
    clear hg
    go_wp2_with fail
    go_ret3
    rw [HV.out, HT.out]
    exact ⟨_, _, rfl, gi_res (lo := w1.heap.size) (OwnC.nil _ _ (fun _ => False)) (fun _ h => h.elim) (no_ints _ _ _ 0 (by simp [maxLen])) HB1.out.size (Nat.le_refl _), HB1.out⟩
  | true =>
    have HT := mkHid hg
    have HV := mkHid (copyO_yes hg)
    have HR2 : Hid (IIn w1 (plI (natL rs)) rv) := by
      have h := HR.out.next HB1.out
      rw [root_back hg] at h
      exact h
    clear hg
    go_wp2_with fail
    refine (copyFrom_calls g (natL rs) _ _ _ (HK.out.next HB1.out) HR2.out (rootB_iff.1 HT.out).1 (root_lt HT.out) (by rw [natL_len]; exact (rootB_iff.1 HT.out).2.1)).mono ?_
    rintro e w2 ⟨C, M, fv, gv, ov, tv, S, rfl, hC, hbx, hog, hS, hoo, hot, hb2⟩
    have c1 := cell_of_blk hbx 1 _ rfl
    have HRES := mkHid (gi_res hog hS hot.row HB1.out.size hb2.size)
    have HB2 : Hid (Below w.heap.size w w2) := HB1.out.trans (hb2.mono HB1.out.size)
    clear hbx hog hS hoo hot hb2
    go_wp2_with fail
    go_ret3
    rw [HV.out, HT.out]
    exact ⟨_, _, rfl, HRES.out, HB2.out⟩

set_option maxHeartbeats 800000 in
theorem implOrderG_calls (g : List Ce) (rs : List Int) (v rv : Value) (w : World) (hk : CIn w g v) (hr : IIn w rs rv) :
    Calls Try.prog 20 #[v, rv] w (NewInts (plI (orderO g rs)) w) := by
  have HK : Hid (CIn w g v) := hk
  have HR : Hid (IIn w rs rv) := hr
  clear hk hr
  go_enter Try.func20, Try.ntmps20
  go_wp2_with fail
  refine (canCopy_calls g rs _ _ _ HK.out HR.out).mono ?_
  rintro e w1 ⟨rfl, hb1⟩
  have HB1 : Hid (Below w.heap.size w w1) := hb1
  clear hb1
  cases hg : rootB g rs with
  | false =>
    have HV := mkHid (orderO_no hg)
    clear hg
    go_wp2_with fail
    go_ret
    rw [HV.out]
    exact ⟨_, rfl, no_ints _ _ _ 0 (by simp [maxLen]), HB1.out⟩
  | true =>
    have HT := mkHid hg
    have HV := mkHid (orderO_yes hg)
    have HR2 : Hid (IIn w1 (plI (natL rs)) rv) := by
      have h := HR.out.next HB1.out
      rw [root_back hg] at h
      exact h
    clear hg
    go_wp2_with fail
    refine (copyFrom_calls g (natL rs) _ _ _ (HK.out.next HB1.out) HR2.out (rootB_iff.1 HT.out).1 (root_lt HT.out) (by rw [natL_len]; exact (rootB_iff.1 HT.out).2.1)).mono ?_
    rintro e w2 ⟨C, M, fv, gv, ov, tv, S, rfl, hC, hbx, hog, hS, hoo, hot, hb2⟩
    have c3 := cell_of_blk hbx 3 _ rfl
    have HS := mkHid (hoo.lower HB1.out.size).row
    have HB2 : Hid (Below w.heap.size w w2) := HB1.out.trans (hb2.mono HB1.out.size)
    clear hbx hog hS hoo hot hb2
    go_wp2_with fail
    go_ret
    rw [HV.out]
    exact ⟨_, rfl, HS.out, HB2.out⟩
end Go.Proofs.Ytjpjikfmdaejeaa
