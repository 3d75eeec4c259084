/-
  THE WALK OF FnFollowInd.
-/
import Derived.Test.YtjdlfpdljmohiaaMb12
import Derived.Test.YtjdlfpdljmohiaaMb13
import Derived.Test.YtjdlfpdljmohiaaMb14
import Derived.Test.YtjdlfpdljmohiaaRows
import Derived.ShutString
import Derived.ChangeOld
namespace Go.Proofs.Ytjdlfpdljmohiaa.lawFollowInd
open Go.ChangeShapes Go.WideShapes Go.ChangeAt Go.RowKit
set_option linter.unusedVariables false
set_option linter.unusedSimpArgs false

set_option maxRecDepth 100000 in
set_option maxHeartbeats 3200000 in
theorem walk (len : Nat) (v : Value) (w : World) (h : BytesOn w (Lt w.heap.size) len v) : Calls Try.prog 3 #[v] w fun e w' => e = .returned (.bool true) ∧ Below w.heap.size w w' := by
  have H := mkHid h
  obtain ⟨ad, cap, rfl, hl, hm, -⟩ := h
  unfold maxLen at hm
  go_enter Try.func3, Try.ntmps3
  by_cases hlen : (1048576 : Int) < (len : Int)
  · go_wp2_with fail
    go_ret
    exact ⟨rfl, Below.refl _ _⟩
  clear hl hm
  go_wp2_with fail
  refine (drawFollow_calls len _ w H.out).mono ?_
  rintro e w1 ⟨G, gv, root, rfl, hi, hlG, hc, hb1⟩
  have HG1 : Hid (CIn w1 G gv) := hc.mono (fun k hk => hk.2) fun _ _ => rfl
  have HB1 := mkHid hb1
  obtain ⟨adg, capg, rfl, hcg1, hcg2, -⟩ := id hc
  unfold maxLen at hcg2
  clear hc hb1
  go_wp2_with fail
  refine (implFollow_calls G root _ _ HG1.out).mono ?_
  rintro e w2 ⟨rfl, hb2⟩
  have HG2 := mkHid (HG1.out.next hb2)
  have HB2 : Hid (Below w.heap.size w w2) := HB1.out.trans (hb2.mono HB1.out.size)
  clear hb2
  go_wp2_with fail
  refine (specFollow_calls G root _ _ HG2.out).mono ?_
  rintro e w3 ⟨rfl, hb3⟩
  have HG3 := mkHid (HG2.out.next hb3)
  have HB3 : Hid (Below w.heap.size w w3) := HB2.out.trans (hb3.mono HB2.out.size)
  clear hb3
  cases hf : followB G root with
  | none =>
    have e1 : folV G root = 0 := by unfold folV; rw [hf]
    have e2 : folB G root = false := by unfold folB; rw [hf]; rfl
    rw [e1, e2]
    clear hf e1 e2
    go_wp2_with fail
    go_ret
    exact ⟨rfl, HB3.out⟩
  | some k =>
    have e1 : folV G root = (k : Int) := by unfold folV; rw [hf]
    have e2 : folB G root = true := by unfold folB; rw [hf]; rfl
    obtain ⟨hgb, h0, h1, hk, hop, hreach, hread⟩ := fol_facts hf
    obtain ⟨fl, hfl⟩ := reach_marks G root.toNat
    have HIN : Hid ((k : Int) ∈ fromB G root fl) := by
      rw [Hid, fromB_yes ⟨hgb, by unfold isAt; simp; omega⟩]
      exact (numsTo_mem fl G.length k).2 ⟨k, rfl, hk, (hfl k).2 hreach⟩
    have HFL : Hid (∀ a, fl a = true ↔ Reach G root.toNat a) := hfl
    obtain ⟨t, bq, -, -, -, hsz, hout⟩ := readOut_two (readB G root 6) (readB_sz G root 6)
    have HR1 : Hid (∀ (W : World), CIn W G (.slice adg G.length capg) → Calls Try.prog 16 #[.slice adg G.length capg, .int .i64 root, .int .i64 6] W (RdOne t bq W)) := fun W h => (implRead_calls G root 6 _ W h).mono fun e w' h => hout W e w' h
    have HR2 : Hid (∀ (W : World), CIn W G (.slice adg G.length capg) → Calls Try.prog 16 #[.slice adg G.length capg, .int .i64 (k : Int), .int .i64 6] W (RdOne t bq W)) := fun W h => (implRead_calls G k 6 _ W h).mono fun e w' h => hout W e w' (by rw [hread]; exact h)
    have hok : G[k].op ≠ 11 := by unfold opAt at hop; rwa [getD_at _ _ _ hk] at hop
    have hob : (G[k].op != 11) = true := by simpa using hok
    have hbq : (bq == bq) = true := by simp
    have HSZ : Hid (szT t ≤ 60) := hsz
    rw [e1, e2]
    clear hf e1 e2 hgb h0 h1 hop hreach hread hfl hout hsz hok
    go_wp2_with fail
    refine (HR1.out w3 HG3.out).mono ?_
    rintro e w4 ⟨v4, rfl, hf4, hi4, hb4⟩
    have HV4 := mkHid hf4
    have HTI := mkHid hi4
    have HG4 := mkHid (HG3.out.next hb4)
    have HB4 : Hid (Below w.heap.size w w4) := HB3.out.trans (hb4.mono HB3.out.size)
    obtain ⟨ad4, cap4, rfl⟩ := fresh_shape hf4
    clear hf4 hi4 hb4
    go_wp2_with fail
    obtain ⟨w5, hw5⟩ : ∃ w5 : World, w5 = w4.alloc (.cells #[.int .i64 t.op, .int .i64 t.num, .slice ad4 t.kids.length cap4] 30) := ⟨_, rfl⟩
    rw [← hw5]
    have hb5 : Below w4.heap.size w4 w5 := by rw [hw5]; exact box_below _ _
    have HX5 : Hid (w5.heap[w4.heap.size]? = some (.cells #[.int .i64 t.op, .int .i64 t.num, .slice ad4 t.kids.length cap4] 30)) := by rw [hw5]; exact Deep.blk_alloc_new _ _
    have HV5 : Hid (InP w5 t.kids (.slice ad4 t.kids.length cap4)) := HV4.out.inP.nextP hb5
    have HG5 := mkHid (HG4.out.next hb5)
    have HB5 : Hid (Below w.heap.size w w5) := HB4.out.trans (hb5.mono HB4.out.size)
    have hl5 : w4.heap.size < w5.heap.size := cellsOf_lt HX5.out
    clear hw5 hb5
    refine (HR2.out w5 HG5.out).mono ?_
    rintro e w6 ⟨v6, rfl, hf6, -, hb6⟩
    have HV6 := mkHid hf6
    have HX6 := mkHid ((hb6.block _ hl5).trans HX5.out)
    have HV56 : Hid (InP w6 t.kids (.slice ad4 t.kids.length cap4)) := HV5.out.nextP hb6
    have HG6 := mkHid (HG5.out.next hb6)
    have HB6 : Hid (Below w.heap.size w w6) := HB5.out.trans (hb6.mono HB5.out.size)
    obtain ⟨ad6, cap6, rfl⟩ := fresh_shape hf6
    have hl6 : w4.heap.size < w6.heap.size := cellsOf_lt HX6.out
    clear hf6 hb6
    have hb7 : Below w6.heap.size w6 (w6.alloc (.cells #[.int .i64 t.op, .int .i64 t.num, .slice ad6 t.kids.length cap6] 30)) := box_below _ _
    have HX7 := (hb7.block _ hl6).trans HX6.out
    have HY7 : (w6.alloc (.cells #[.int .i64 t.op, .int .i64 t.num, .slice ad6 t.kids.length cap6] 30)).heap[w6.heap.size]? = some (.cells #[.int .i64 t.op, .int .i64 t.num, .slice ad6 t.kids.length cap6] 30) := Deep.blk_alloc_new _ _
    have HV57 : Hid (InP (w6.alloc (.cells #[.int .i64 t.op, .int .i64 t.num, .slice ad6 t.kids.length cap6] 30)) t.kids (.slice ad4 t.kids.length cap4)) := HV56.out.nextP hb7
    have HV67 : Hid (InP (w6.alloc (.cells #[.int .i64 t.op, .int .i64 t.num, .slice ad6 t.kids.length cap6] 30)) t.kids (.slice ad6 t.kids.length cap6)) := HV6.out.inP.nextP hb7
    have HG7 := mkHid (HG6.out.next hb7)
    have HB7 : Hid (Below w.heap.size w (w6.alloc (.cells #[.int .i64 t.op, .int .i64 t.num, .slice ad6 t.kids.length cap6] 30))) := HB6.out.trans (hb7.mono HB6.out.size)
    have x0 := cell_of_blk HX7 0 _ rfl
    have x1 := cell_of_blk HX7 1 _ rfl
    have x2 := cell_of_blk HX7 2 _ rfl
    have y0 := cell_of_blk HY7 0 _ rfl
    have y1 := cell_of_blk HY7 1 _ rfl
    have y2 := cell_of_blk HY7 2 _ rfl
    obtain ⟨bl, off, c, rfl, g0, -, -, -, -, -⟩ := HG7.out.at k hk
    clear hb7 HX7 HY7
    go_wp2_with fail
    refine (implSame_calls t t _ _ _ HV57.out HV67.out HTI.out HTI.out (by have := HSZ.out; omega)).mono ?_
    rintro e w8 ⟨⟨r, rfl, hr⟩, hb8⟩
    obtain rfl : r = true := hr.2 rfl
    have HG8 := mkHid (HG7.out.next hb8)
    have HB8 : Hid (Below w.heap.size w w8) := HB7.out.trans (hb8.mono HB7.out.size)
    clear hb8 hr x0 x1 x2 y0 y1 y2 g0
    go_wp2_with fail
    refine (implFrom_calls G root _ w8 fl HFL.out HG8.out).mono ?_
    rintro e w9 ⟨v9, rfl, hv9, hb9⟩
    have HV9 := mkHid hv9.inn
    have HB9 : Hid (Below w.heap.size w w9) := HB8.out.trans (hb9.mono HB8.out.size)
    obtain ⟨ad9, cap9, rfl, -, -, -⟩ := hv9
    clear hb9
    go_wp2_with fail
    refine (glIn_calls _ _ (k : Int) w9 HV9.out).mono ?_
    rintro e w10 ⟨rfl, hb10⟩
    have HB10 : Hid (Below w.heap.size w w10) := HB9.out.trans (hb10.mono HB9.out.size)
    rw [show decide ((k : Int) ∈ fromB G root fl) = true from decide_eq_true HIN.out]
    clear hb10
    go_wp2_with fail
    go_ret
    exact ⟨rfl, HB10.out⟩
end Go.Proofs.Ytjdlfpdljmohiaa.lawFollowInd
/-
  FnFollowInd: for every argument the program's function answers as the model's, and changes nothing. No condition.
-/
namespace Go.Proofs.Ytjdlfpdljmohiaa.lawFollowInd
open Go.ChangeShapes Go.WideShapes Go.ChangeAt Go.RowKit
set_option linter.unusedVariables false
set_option linter.unusedSimpArgs false

theorem own : ownKnob Try.prog.godebug = none := by kernel_rfl
theorem laidOut : laidOutB Try.prog = true := by kernel_rfl

set_option maxRecDepth 100000 in
theorem lifted (os : Os) (started : os.Started) (H : Type) (enc : TypeId × Value → H) :
    ReturnsInHanded {} Try.checked os 3 .any (Rows.fnFollowIndSpec.pre6 enc Try.prog Try.f3 Rows.fnFollowIndRow.domain false) (Rows.fnFollowIndSpec.post enc Try.prog Try.f3 false true false false) := by
  refine returnsInHanded_of_change (C := Try.checked) own started (by kernel_rfl) Try.func3
    (ChangeSpec.witness6 (enc := enc) (C := Try.checked) false ⟨#[], #[.slice none 0 0], []⟩ 8 (by kernel_rfl) (by kernel_rfl) (by kernel_rfl) (by kernel_rfl)) ?_
  intro W base args ds gs before hval0 hW hcnd _
  have hval : ∀ (j : Nat) t v, Try.f3.params[j]? = some t → args[j]? = some v → Value.okWide Try.prog W .any base t v := hval0
  have hW' := hW
  obtain ⟨p, q, hA0, hV, rfl, hfz, hnd⟩ := hW
  have hA : DataW.TrodAll enc Try.prog W 0 (fun _ => true) true Try.f3.params.toList args.toList ds p := hA0
  rw [Try.params3] at hA hval
  obtain ⟨v0, vs0, d0, ds0, p0, q0, hargs, rfl, rfl, h0, r0⟩ := trodAll_cons hA
  obtain ⟨rfl, rfl, rfl⟩ := trodAll_nil r0
  obtain rfl : args = #[v0] := by cases args; simp_all
  obtain ⟨rfl, rfl⟩ := trodVars_none hV
  have k0 := h0
  have lt0 : ∀ x ∈ p0, x.block < W.heap.size := by obtain ⟨m, hm⟩ := k0; exact DataW.trod_lt m _ _ _ hm
  obtain ⟨a0, len0, cap0, rfl⟩ := okWide_slice Try.underlying22 (hval 0 22 v0 rfl rfl)
  obtain ⟨fuel0, hf0⟩ := h0
  obtain ⟨ln0, hk0⟩ := trod_bytes fuel0 _ _ (by simpa [Value.cells] using hf0)
  clear hA0 hval0
  refine (walk ln0 _ W hk0).mono fun e W' ⟨he, bel⟩ => ?_
  subst he
  exact ⟨_, rfl, _, _, _, [], _, [], hW', trodAll_mk1 (shut_bool Try.underlying4 _), (trodAll_cons_mk (Below.trod laidOut (by kernel_rfl) (of_decide_eq_true (by kernel_rfl)) k0 bel lt0) trodAll_mk0), rfl, bel.frame _, fun h => by cases h⟩

theorem over : Rows.fnFollowIndRow.holds Try.pinned (OpenSpec.ofChange Rows.fnFollowIndSpec) :=
  OpenClaim.holds_of_wide 3 Try.f3 rfl rfl rfl rfl rfl rfl rfl ⟨rfl, rfl, rfl, rfl, rfl⟩ rfl rfl rfl rfl rfl (by kernel_rfl) Try.func3 (by kernel_rfl)
    (of_decide_eq_true (by kernel_rfl)) (by unfold Func.isWrapper; first | (rw [if_pos (by decide +kernel)]; kernel_rfl) | (rw [if_neg (by decide +kernel)]; exact ⟨rfl, rfl⟩))
    (fun os started H enc _ => lifted os started H enc)

theorem proved : Rows.FnFollowIndSaid := over
end Go.Proofs.Ytjdlfpdljmohiaa.lawFollowInd
