/-
  ONE ROW OF NUMBERS OF ITS OWN; a graph that keeps its rows while it is marked.
-/
import Derived.Test.YtidijbnoaeopdaaGreatDoorMgExactPeakCells9
import Derived.Test.YtidijbnoaeopdaaGreatDoorMgExactPeakCells10
import Derived.Test.YtidijbnoaeopdaaGreatDoorMgExactPeakCells38
import Derived.Test.YtidijbnoaeopdaaGreatDoorMgExactPeakCells30
import Derived.Test.YtidijbnoaeopdaaGreatDoorMgExactPeakCells31
import Derived.Test.YtidijbnoaeopdaaGreatDoorMgExactPeakCells17
import Derived.Test.YtidijbnoaeopdaaGreatDoorMgExactPeakCells14
import Derived.Test.YtidijbnoaeopdaaGreatDoorMgExactPeakCells18
import Derived.Test.YtidijbnoaeopdaaGreatDoorMgExactPeakCells20
namespace Go.Proofs.YtidijbnoaeopdaaGreatDoor
set_option linter.unusedVariables false
set_option linter.unusedSimpArgs false
open Go.RowKit

/-- numbers in the row b -/
def OneRow (w : World) (b : Nat) (X : List Int) (v : Value) : Prop := KRow w [b] X b v
theorem OneRow.keep {w w' : World} {b : Nat} {X : List Int} {v : Value} (h : OneRow w b X v) (hb : ∀ k, k = b → k < w.heap.size → w'.heap[k]? = w.heap[k]?) : OneRow w' b X v := by
  unfold OneRow at h ⊢
  refine h.keep (fun _ h => h) fun hx hm => ?_
  obtain ⟨_, _, _, _, _, h5⟩ := h
  rcases h5 with h5 | ⟨f5, -, -, h6, -⟩
  · exact absurd h5 hx
  · exact hb _ rfl h6.lt
theorem OneRow.next {w w' : World} {b : Nat} {X : List Int} {v : Value} (h : OneRow w b X v) (hb : Below w.heap.size w w') : OneRow w' b X v := h.keep fun k _ hk => hb.block k hk
theorem OneRow.form {w : World} {b : Nat} {X : List Int} {v : Value} (h : OneRow w b X v) : ∃ ad cap, v = .slice ad X.length cap := by
  obtain ⟨ad, cap, e, -⟩ := h; exact ⟨ad, cap, e⟩
theorem OneRow.inn {w : World} {b : Nat} {X : List Int} {v : Value} (h : OneRow w b X v) : IIn w X v := by
  obtain ⟨ad, cap, e, l1, l2, h⟩ := h
  refine ⟨ad, cap, e, l1, l2, h.imp id ?_⟩
  rintro ⟨f, rfl, -, hr, hf⟩
  exact ⟨b, 0, rfl, hr.lt, fun i hi => by rw [Nat.zero_add, hr.cell (by omega), hf i hi]⟩
theorem OneRow.nil (w : World) (b : Nat) (ad : Option Addr) (cap : Nat) (h : cap ≤ maxLen) : OneRow w b [] (.slice ad 0 cap) := ⟨ad, cap, rfl, Nat.zero_le _, h, Or.inl rfl⟩
theorem one_of_row {w : World} {lo : Nat} {X : List Int} {v : Value} (h : IntRow w lo X v) (d : Nat) : ∃ b, OneRow w b X v ∧ ((X ≠ [] ∧ lo ≤ b ∧ b < w.heap.size ∧ v.ownBlock = some b) ∨ b = d) := by
  obtain ⟨ad, cap, e, l1, l2, h⟩ := h
  by_cases hx : X = []
  · exact ⟨d, ⟨ad, cap, e, l1, l2, Or.inl hx⟩, Or.inr rfl⟩
  · rcases h with h | ⟨g, f, rfl, hg, hr, hf⟩
    · exact absurd h hx
    · exact ⟨g, ⟨_, cap, e, l1, l2, Or.inr ⟨f, rfl, by simp, hr, hf⟩⟩, Or.inl ⟨hx, hg, hr.lt, by rw [e]; rfl⟩⟩
/-- the rows of a graph that a call has built, but for one block -/
theorem OwnC.ownBut {w : World} {lo : Nat} {S : Nat → Prop} {g : List Ce} {v : Value} (h : OwnC w lo S g v) (b : Nat) (hS : ∀ k, S k → k < w.heap.size → lo ≤ k ∧ k ≠ b) (hv : some b ≠ v.ownBlock) : GOwn w ((List.range' lo (w.heap.size - lo)).filter fun k => k != b) g v := by
  obtain ⟨hi0, xs, kb, h1, h2, h3⟩ := h
  refine ⟨hi0, ?_⟩
  rcases h1.2 with ⟨rfl, h0⟩ | ⟨c, cap, cur, rfl, hg, hh2, hn, hc, hs, htk⟩
  · obtain rfl : g = [] := List.eq_nil_of_length_eq_zero h0
    exact ⟨none, 0, rfl, Nat.le_refl _, by simp [maxLen], Or.inl rfl⟩
  · have hbl : c < w.heap.size := (Array.getElem?_eq_some_iff.1 hh2).1
    have hcb : c ≠ b := fun e => hv (by simp [Value.ownBlock, e])
    refine ⟨_, cap, rfl, hn, hc, Or.inr ⟨c, kb, rfl, by rw [List.mem_filter, List.mem_range'_1]; exact ⟨by omega, by simpa using hcb⟩, ⟨fun i => cur.getD i undef, ⟨cur, hh2, hs, fun i hi => by simp [Array.getD, show i < cur.size by omega]⟩, fun i hi => ?_⟩, h3⟩⟩
    obtain ⟨kv, e0, e1, e2, e3⟩ := h2 i hi
    have get : ∀ m u, m < g.length * 3 → xs[m]? = some u → cur.getD m undef = u := by
      intro m u hm hu
      rw [← htk, List.getElem?_take_of_lt hm] at hu
      have hmc : m < cur.size := by omega
      simp [hmc] at hu
      simp [Array.getD, hmc, hu]
    refine ⟨get _ _ (by omega) e0, get _ _ (by omega) e1, ?_⟩
    simp only []
    rw [get _ _ (by omega) e2]
    obtain ⟨ad2, cap2, e4, l1, l2, h5⟩ := e3
    refine ⟨ad2, cap2, e4, l1, l2, h5.imp id ?_⟩
    rintro ⟨f, rfl, h6, h8, h9⟩
    have h10 := hS _ h6 h8.lt
    exact ⟨f, rfl, by rw [List.mem_filter, List.mem_range'_1]; have := h8.lt; exact ⟨by omega, by simpa using h10.2⟩, h8, h9⟩
/-- what a call hands back: a graph and numbers, in rows of their own -/
def GIRes (G : List Ce) (X : List Int) (gv tv : Value) (w w' : World) : Prop :=
  ∃ fG bL, GOwn w' fG G gv ∧ (∀ k ∈ fG, w.heap.size ≤ k ∧ k < w'.heap.size) ∧ OneRow w' bL X tv ∧ w.heap.size ≤ bL ∧ bL ∉ fG
theorem GIRes.inn {G : List Ce} {X : List Int} {gv tv : Value} {w w' : World} (h : GIRes G X gv tv w w') : CIn w' G gv ∧ IIn w' X tv := by
  obtain ⟨fG, bL, h1, -, h3, -⟩ := h
  exact ⟨h1.inn, h3.inn⟩
theorem gi_res {w w' : World} {lo : Nat} {S : Nat → Prop} {g : List Ce} {gv tv : Value} {X : List Int} (hg : OwnC w' lo S g gv) (hS : ∀ k, S k → lo ≤ k ∧ some k ≠ tv.ownBlock) (ht : IntRow w' lo X tv) (hl : w.heap.size ≤ lo) (hs : lo ≤ w'.heap.size) : GIRes g X gv tv w w' := by
  obtain ⟨b, h1, h2⟩ := one_of_row ht w'.heap.size
  obtain ⟨xs, hx⟩ := hg.row
  have hfp : ∀ k ∈ (List.range' lo (w'.heap.size - lo)).filter (fun k => k != b), w.heap.size ≤ k ∧ k < w'.heap.size := fun k hk => by
    have := (List.mem_filter.1 hk).1
    rw [List.mem_range'_1] at this
    omega
  refine ⟨_, b, hg.ownBut b (fun k hk hkl => ⟨(hS k hk).1, fun e => ?_⟩) (fun e => ?_), hfp, h1, ?_, fun hm => by simpa using (List.mem_filter.1 hm).2⟩
  · rcases h2 with h2 | h2
    · exact (hS k hk).2 (by rw [h2.2.2.2, e])
    · omega
  · rcases h2 with h2 | h2
    · obtain ⟨hne, hlb, hlt, hvb⟩ := h2
      rcases hx.2 with ⟨rfl, -⟩ | ⟨c, cap, cur, rfl, -, hh, -⟩
      · simp [Value.ownBlock] at e
      · simp only [Value.ownBlock, Option.some.injEq] at e
        subst e
        obtain ⟨ad, cap2, e2, -, -, h5⟩ := ht
        rcases h5 with h5 | ⟨g5, f5, rfl, -, ⟨C, hC, -⟩, -⟩
        · exact hne h5
        · rw [e2] at hvb
          simp only [Value.ownBlock, Option.some.injEq] at hvb
          subst hvb
          rw [hh] at hC
          simp only [Option.some.injEq, Obj.cells.injEq] at hC
          exact absurd hC.2.1 (by decide)
    · rcases hx.2 with ⟨rfl, -⟩ | ⟨c, cap, cur, rfl, -, hh, -⟩
      · simp [Value.ownBlock] at e
      · simp only [Value.ownBlock, Option.some.injEq] at e
        have := (Array.getElem?_eq_some_iff.1 hh).1
        omega
  · rcases h2 with h2 | h2 <;> omega
theorem GIRes.lower {G : List Ce} {X : List Int} {gv tv : Value} {w w1 w' : World} (h : GIRes G X gv tv w1 w') (hl : w.heap.size ≤ w1.heap.size) : GIRes G X gv tv w w' := by
  obtain ⟨fG, bL, h1, h2, h3, h4, h5⟩ := h
  exact ⟨fG, bL, h1, fun k hk => ⟨Nat.le_trans hl (h2 k hk).1, (h2 k hk).2⟩, h3, Nat.le_trans hl h4, h5⟩
end Go.Proofs.YtidijbnoaeopdaaGreatDoor
/-
  THE PROGRAM's canCopy, CopyGraph AND CopyOrder.
-/
namespace Go.Proofs.YtidijbnoaeopdaaGreatDoor
set_option linter.unusedVariables false
set_option linter.unusedSimpArgs false
open Go.RowKit

set_option maxHeartbeats 800000 in
theorem canCopy_calls (g : List Ce) (rs : List Int) (v rv : Value) (w : World) (hk : CIn w g v) (hr : IIn w rs rv) :
    Calls Tryz.prog 108 #[v, rv] w fun e w' => e = .returned (.bool (rootB g rs)) ∧ Below w.heap.size w w' := by
  have HK : Hid (CIn w g v) := hk
  have HR : Hid (IIn w rs rv) := hr
  obtain ⟨ad, cap, rfl, hl, hm, -⟩ := hk
  obtain ⟨adr, capr, rfl, hlr, hmr, -⟩ := hr
  unfold maxLen at hm hmr
  go_enter Tryz.func108, Tryz.ntmps108
  go_wp2_with fail
  refine (implGraph_calls g 6 _ _ HK.out).mono ?_
  rintro e w1 ⟨rfl, hb1⟩
  have HB1 : Hid (Below w.heap.size w w1) := hb1
  clear hb1
  cases hg : graphB g 6 with
  | false =>
    have HV : Hid (rootB g rs = false) := by unfold Hid rootB; rw [hg]; rfl
    clear hg
    go_wp2_with fail
    go_ret
    exact ⟨ret_bool HV.out.symm, HB1.out⟩
  | true =>
    have HG : Hid (graphB g 6 = true) := hg
    clear hg
    by_cases h20 : (rs.length : Int) ≤ 20
    · have HV : Hid (rootB g rs = rs.all (isAt g.length)) := by unfold Hid rootB; rw [HG.out, decide_eq_true (by omega)]; rfl
      go_wp2_with fail
      refine (areCells_calls g.length cap ad rs _ _ (by omega) (HR.out.next HB1.out)).mono ?_
      rintro e w2 ⟨rfl, hb2⟩
      have HB2 : Hid (Below w.heap.size w w2) := HB1.out.trans (hb2.mono HB1.out.size)
      clear hb2
      go_wp2_with fail
      go_ret
      exact ⟨ret_bool HV.out.symm, HB2.out⟩
    · have HV : Hid (rootB g rs = false) := by unfold Hid rootB; rw [decide_eq_false (by omega)]; simp
      go_wp2_with fail
      go_ret
      exact ⟨ret_bool HV.out.symm, HB1.out⟩

/-- a graph and numbers in rows of their own, and whether -/
def OwnGI (r : List Ce × List Nat) (ok : Bool) (w : World) (e : Ending) (w' : World) : Prop :=
  ∃ gv tv, e = .returned (.tuple #[gv, tv, .bool ok]) ∧ GIRes r.1 (plI r.2) gv tv w w' ∧ Below w.heap.size w w'

set_option maxHeartbeats 800000 in
theorem implCopyG_calls (g : List Ce) (rs : List Int) (v rv : Value) (w : World) (hk : CIn w g v) (hr : IIn w rs rv) :
    Calls Tryz.prog 110 #[v, rv] w (OwnGI (copyO g rs) (rootB g rs) w) := by
  have HK : Hid (CIn w g v) := hk
  have HR : Hid (IIn w rs rv) := hr
  clear hk hr
  go_enter Tryz.func110, Tryz.ntmps110
  go_wp2_with fail
  refine (canCopy_calls g rs _ _ _ HK.out HR.out).mono ?_
  rintro e w1 ⟨rfl, hb1⟩
  have HB1 : Hid (Below w.heap.size w w1) := hb1
  clear hb1
  cases hg : rootB g rs with
  | false =>
    have HV := mkHid (copyO_no hg)
    have HT := mkHid hg
    clear hg
    go_wp2_with fail
    go_ret3
    rw [HV.out, HT.out]
    exact ⟨_, _, rfl, gi_res (lo := w1.heap.size) (OwnC.nil _ _ (fun _ => False)) (fun _ h => h.elim) (no_ints _ _ _ 0 (by simp [maxLen])) HB1.out.size (Nat.le_refl _), HB1.out⟩
  | true =>
    have HT := mkHid hg
    have HV := mkHid (copyO_yes hg)
    have HR2 : Hid (IIn w1 (plI (natL rs)) rv) := by
      have h := HR.out.next HB1.out
      rw [root_back hg] at h
      exact h
    clear hg
    go_wp2_with fail
    refine (copyFrom_calls g (natL rs) _ _ _ (HK.out.next HB1.out) HR2.out (rootB_iff.1 HT.out).1 (root_lt HT.out) (by rw [natL_len]; exact (rootB_iff.1 HT.out).2.1)).mono ?_
    rintro e w2 ⟨C, M, fv, gv, ov, tv, S, rfl, hC, hbx, hog, hS, hoo, hot, hb2⟩
    have c1 := cell_of_blk hbx 1 _ rfl
    have HRES := mkHid (gi_res hog hS hot.row HB1.out.size hb2.size)
    have HB2 : Hid (Below w.heap.size w w2) := HB1.out.trans (hb2.mono HB1.out.size)
    clear hbx hog hS hoo hot hb2
    go_wp2_with fail
    go_ret3
    rw [HV.out, HT.out]
    exact ⟨_, _, rfl, HRES.out, HB2.out⟩

end Go.Proofs.YtidijbnoaeopdaaGreatDoor
/-
  THE PROGRAM's pastInds: cells past indirections, in a new row.
-/
namespace Go.Proofs.YtidijbnoaeopdaaGreatDoor
set_option linter.unusedVariables false
set_option linter.unusedSimpArgs false
open Go.RowKit

theorem skip_some {g : List Ce} {a b : Nat} (h : followN g g.length a = some b) : skipN g a = b := by unfold skipN; rw [h]; rfl
theorem skip_none {g : List Ce} {a : Nat} (h : followN g g.length a = none) : skipN g a = a := by unfold skipN; rw [h]; rfl

set_option maxRecDepth 100000 in
set_option maxHeartbeats 1600000 in
theorem pastInds_calls (g : List Ce) (ls : List Nat) (v lv : Value) (w : World) (hk : CIn w g v) (hg : graphB g 6 = true) (hlv : IIn w (plI ls) lv) (hll : ∀ x ∈ ls, x < g.length) (hz : ls.length ≤ 1048576) :
    Calls Tryz.prog 109 #[v, lv] w (NewStk (ls.map (skipN g)) w) := by
  have HK := mkHid hk
  have HG := mkHid hg
  have HLV := mkHid hlv
  have HLL := mkHid hll
  obtain ⟨ad, cap, rfl, -, -, -⟩ := hk
  obtain ⟨adl, capl, rfl, hlc, hlm⟩ := pl_form hlv
  unfold maxLen at hlm
  clear hg hlv hll
  have HST : Hid (Stk w w.heap.size ((ls.take 0).map (skipN g)) (.slice none 0 0)) := World.ownsRow_nil _ _ _ _
  go_enter Tryz.func109, Tryz.ntmps109
  go_wp2_with fail
  go_loopw [5, 12] (fun pv z wr => ∃ k : Nat, k ≤ ls.length ∧ z = .int .i64 k ∧ Stk wr w.heap.size ((ls.take k).map (skipN g)) pv ∧ Below w.heap.size w wr) (fun _ z _ => ls.length - (intOf z).toNat)
  case atStart => exact ⟨0, Nat.zero_le _, rfl, HST.out, Below.refl _ _⟩
  case round =>
    obtain ⟨k, hk, rfl, hst, hb⟩ := hrel
    have HS := mkHid hst
    have HB : Hid (Below w.heap.size w wr) := hb
    have hsw := hb.size
    have hjl : ((ls.take k).map (skipN g)).length = k := by rw [List.length_map, List.length_take]; omega
    have HJL := mkHid hjl
    obtain ⟨adp, capp, rfl⟩ : ∃ ad cap, u5 = .slice ad k cap := by obtain ⟨x, y, e⟩ := hst.len; rw [hjl] at e; exact ⟨x, y, e⟩
    clear hst hjl
    by_cases hlt : k < ls.length
    · obtain ⟨bl, off, x, rfl, hbl, hx, hxm, d0w⟩ := pl_at HLV.out k hlt
      have d0 := (hb.cell (p := ⟨bl, off + k, none⟩) hbl).trans d0w
      have hxl := HLL.out x hxm
      have HX := mkHid hx
      clear hb hx hxm d0w
      go_wp2_with fail
      refine (standsFor_calls g x _ _ (HK.out.next HB.out) ⟨6, HG.out⟩ hxl).mono ?_
      rintro e w1 ⟨rfl, hb1⟩
      have HB1 : Hid (Below w.heap.size w w1) := HB.out.trans (hb1.mono HB.out.size)
      have HS1 : Hid (Stk w1 w.heap.size ((ls.take k).map (skipN g)) (.slice adp k capp)) := HS.out.next hb1
      have hzw := HB1.out.size
      obtain ⟨m, hm⟩ : ∃ m, m = skipN g x := ⟨_, rfl⟩
      have HM := mkHid hm
      have HS3 : Hid (Stk (w1.alloc (.cells #[.int .i64 (m : Int)] 3)) w.heap.size ((ls.take k).map (skipN g)) (.slice adp k capp)) := HS1.out.alloc _
      have HK3 : Hid (IIn (w1.alloc (.cells #[.int .i64 (m : Int)] 3)) [(m : Int)] (.slice (some ⟨w1.heap.size, 0, none⟩) 1 1)) := one_in w1 m
      have HLO : Hid (w.heap.size ≤ (w1.alloc (.cells #[.int .i64 (m : Int)] 3)).heap.size) := by rw [Hid, Deep.nblk_alloc]; omega
      clear hb1 d0
      cases hf : followN g g.length x with
      | none =>
        obtain rfl : m = x := by rw [HM.out, skip_none hf]
        clear hf hm
        have e1 : folO none = 0 := rfl
        have e2 : (none : Option Nat).isSome = false := rfl
        rw [e1, e2]
        clear e1 e2
        go_wp2_with (at_builtin; go_must (refine wpList_push rfl _ _ rfl _ w.heap.size ((ls.take k).map (skipN g)) [m] (.slice adp k capp) (.slice (some ⟨w1.heap.size, 0, none⟩) 1 1) rfl HS3.out rfl HK3.out rfl HLO.out (by rw [HJL.out]; simp; omega) ?_); go_must (intro v' w5 hst5 hg5); go_must (have HS5 := mkHid hst5); go_must (have HB5 : Hid (Below w.heap.size w w5) := push_below HS3.out (HB1.out.alloc hzw _) (Nat.le_refl _) hg5 (Nat.le_refl _)); clear hst5 hg5)
        have HS6 : Hid (Stk w5 w.heap.size ((ls.take (k + 1)).map (skipN g)) v') := by
          rw [Hid, take_snoc HX.out, List.map_append, List.map_singleton, ← HM.out]; exact HS5.out
        go_roundw
        case rel => first | exact ⟨k + 1, by omega, by go_num, HS6.out, HB5.out⟩ | ((repeat apply Exists.intro); exact ⟨⟨k + 1, by omega, by go_num, HS6.out, HB5.out⟩, rfl⟩)
        case measure => simp [intOf]; omega
      | some b =>
        obtain rfl : m = b := by rw [HM.out, skip_some hf]
        clear hf hm
        have e1 : folO (some m) = (m : Int) := rfl
        have e2 : (some m).isSome = true := rfl
        rw [e1, e2]
        clear e1 e2
        go_wp2_with (at_builtin; go_must (refine wpList_push rfl _ _ rfl _ w.heap.size ((ls.take k).map (skipN g)) [m] (.slice adp k capp) (.slice (some ⟨w1.heap.size, 0, none⟩) 1 1) rfl HS3.out rfl HK3.out rfl HLO.out (by rw [HJL.out]; simp; omega) ?_); go_must (intro v' w5 hst5 hg5); go_must (have HS5 := mkHid hst5); go_must (have HB5 : Hid (Below w.heap.size w w5) := push_below HS3.out (HB1.out.alloc hzw _) (Nat.le_refl _) hg5 (Nat.le_refl _)); clear hst5 hg5)
        have HS6 : Hid (Stk w5 w.heap.size ((ls.take (k + 1)).map (skipN g)) v') := by
          rw [Hid, take_snoc HX.out, List.map_append, List.map_singleton, ← HM.out]; exact HS5.out
        go_roundw
        case rel => first | exact ⟨k + 1, by omega, by go_num, HS6.out, HB5.out⟩ | ((repeat apply Exists.intro); exact ⟨⟨k + 1, by omega, by go_num, HS6.out, HB5.out⟩, rfl⟩)
        case measure => simp [intOf]; omega
    · have hke : k = ls.length := by omega
      have HV : Hid (Stk wr w.heap.size (ls.map (skipN g)) (.slice adp k capp)) := by
        have h := HS.out
        rw [hke, List.take_length] at h
        rw [hke]; exact h
      clear hb hke
      go_wp2_with fail
      go_ret
      exact ⟨_, rfl, HV.out, HB.out⟩
end Go.Proofs.YtidijbnoaeopdaaGreatDoor
/-
  THE PROGRAM's CollectGraph.
-/
namespace Go.Proofs.YtidijbnoaeopdaaGreatDoor
set_option linter.unusedVariables false
set_option linter.unusedSimpArgs false
open Go.RowKit

theorem natL_plI (l : List Nat) : natL (plI l) = l := by
  unfold natL plI; rw [List.map_map]; conv => rhs; rw [← List.map_id l]
  exact List.map_congr_left fun a _ => by simp
theorem rootB_plI {g : List Ce} {l : List Nat} (hg : graphB g 6 = true) (h20 : l.length ≤ 20) (hl : ∀ x ∈ l, x < g.length) : rootB g (plI l) = true := by
  refine rootB_iff.2 ⟨hg, by rw [plI_length]; exact h20, ?_⟩
  rw [List.all_eq_true]
  intro x hx
  simp only [plI, List.mem_map] at hx
  obtain ⟨a, ha, rfl⟩ := hx
  have := hl a ha
  exact isAt_in (by omega) (by omega)
theorem short_kids {g : List Ce} {defs : Int} (hg : graphB g defs = true) (k : Nat) (hk : k < g.length) : shortC g g[k] = ⟨g[k].op, g[k].num, ((kidsN g k).map (skipN g)).map fun (a : Nat) => (a : Int)⟩ := by
  unfold shortC
  rw [kidsN_at k hk, List.map_map, List.map_map, List.map_map]
  rfl
theorem pastInds_lt {g : List Ce} {defs : Int} (hg : graphB g defs = true) (l : List Nat) (h : ∀ x ∈ l, x < g.length) : ∀ x ∈ l.map (skipN g), x < (shortG g).length := by
  intro x hx
  simp only [List.mem_map] at hx
  obtain ⟨a, ha, rfl⟩ := hx
  rw [shortG_len]
  exact skip_lt hg (h a ha)
/-- what pastInds leaves of the operands of cell k, a copy of which lies in the box wr.heap.size -/
def PastAt (g : List Ce) (k n : Nat) (wr : World) (o : Obj) (e : Ending) (w5 : World) : Prop :=
  ∃ ad cap, e = .returned (.slice ad n cap) ∧ Stk w5 wr.heap.size ((kidsN g k).map (skipN g)) (.slice ad n cap) ∧ Below wr.heap.size wr w5 ∧ w5.heap[wr.heap.size]? = some o
theorem past_at {g : List Ce} {k n : Nat} {wr w5 : World} {o : Obj} {e : Ending} (hx : (wr.alloc o).heap[wr.heap.size]? = some o) (hs : (wr.alloc o).heap.size = wr.heap.size + 1) (hl : ((kidsN g k).map (skipN g)).length = n) (h : NewStk ((kidsN g k).map (skipN g)) (wr.alloc o).drew e w5) : PastAt g k n wr o e w5 := by
  obtain ⟨v, rfl, hst, hb⟩ := h
  have hb2 : Below (wr.alloc o).heap.size (wr.alloc o) w5 := ((Below.refl _ _).drew).trans hb
  obtain ⟨ad, cap, rfl⟩ := stk_len2 hst hl
  exact ⟨ad, cap, rfl, hst.lower (by show _ ≤ (wr.alloc o).heap.size; omega), (box_below wr o).trans (hb2.mono (by omega)), (hb2.block _ (by omega)).trans hx⟩
theorem past_keep {wr w5 w3 : World} {lo k : Nat} {v : Value} {xs : List Value} {C : Array Value} {T : TypeId} {o : Obj} (hx : wr.ownsRow lo 93 3 v k xs) (h5 : w5.heap[wr.heap.size]? = some (.cells C T)) (hb : Below wr.heap.size wr w5) (hg : (w5.alloc o).grownBy w3 v.ownBlock) : w3.heap[wr.heap.size]? = some (.cells C T) := by
  have hl := (Array.getElem?_eq_some_iff.1 h5).1
  exact ((hg.block wr.heap.size (by rw [Deep.nblk_alloc]; omega) (fun e => by have := (own_some hx _ e.symm).2; omega)).trans (Deep.blk_alloc_lt _ _ _ hl)).trans h5

set_option maxRecDepth 100000 in
set_option maxHeartbeats 3200000 in
theorem implColl_calls (g : List Ce) (rs : List Int) (v rv : Value) (w : World) (hk : CIn w g v) (hr : IIn w rs rv) :
    Calls Tryz.prog 88 #[v, rv] w (OwnGI (collO g rs) (rootB g rs) w) := by
  have HK : Hid (CIn w g v) := hk
  have HR : Hid (IIn w rs rv) := hr
  obtain ⟨ad, cap, rfl, hl, hm, -⟩ := hk
  unfold maxLen at hm
  clear hr
  go_enter Tryz.func88, Tryz.ntmps88
  go_wp2_with fail
  refine (canCopy_calls g rs _ _ _ HK.out HR.out).mono ?_
  rintro e w1 ⟨rfl, hb1⟩
  have HB1 : Hid (Below w.heap.size w w1) := hb1
  clear hb1
  cases hg : rootB g rs with
  | false =>
    have HV := mkHid (collO_no hg)
    have HT := mkHid hg
    clear hg
    go_wp2_with fail
    go_ret3
    rw [HV.out, HT.out]
    exact ⟨_, _, rfl, gi_res (lo := w1.heap.size) (OwnC.nil _ _ (fun _ => False)) (fun _ h => h.elim) (no_ints _ _ _ 0 (by simp [maxLen])) HB1.out.size (Nat.le_refl _), HB1.out⟩
  | true =>
    have HT := mkHid hg
    have HV := mkHid (collO_yes hg)
    have HG := mkHid (rootB_iff.1 hg).1
    have HR2 : Hid (IIn w1 (plI (natL rs)) rv) := by
      have h := HR.out.next HB1.out
      rw [root_back hg] at h
      exact h
    have h400 : g.length ≤ 400 := graphB_len HG.out
    have HST : Hid (OwnC w1 w1.heap.size (fun b => w1.heap.size ≤ b) ((g.take 0).map (shortC g)) (.slice none 0 0)) := OwnC.nil _ _ _
    clear hg
    go_wp2_with fail
    go_loopw [7, 16] (fun out z wr => ∃ k : Nat, k ≤ g.length ∧ z = .int .i64 k ∧ OwnC wr w1.heap.size (fun b => w1.heap.size ≤ b) ((g.take k).map (shortC g)) out ∧ Below w1.heap.size w1 wr) (fun _ z _ => g.length - (intOf z).toNat)
    case atStart => exact ⟨0, Nat.zero_le _, rfl, HST.out, Below.refl _ _⟩
    case round =>
      obtain ⟨k, hk, rfl, hown, hb⟩ := hrel
      have HO := mkHid hown
      have HB : Hid (Below w1.heap.size w1 wr) := hb
      have hsz := hb.size
      by_cases hlt : k < g.length
      · obtain ⟨bl, off, r2, rfl, c0, c1, c2, io, iN, hkk⟩ := (HK.out.next (HB1.out.trans (hb.mono HB1.out.size))).at k hlt
        obtain ⟨adk, capk, rfl, -, -, -⟩ := id hkk
        have HIO : Hid (I64 g[k].op ∧ I64 g[k].num) := ⟨io, iN⟩
        have HTL : Hid (((g.take k).map (shortC g)).length = k) := by rw [Hid, List.length_map, List.length_take]; omega
        obtain ⟨adu, capu, rfl⟩ : ∃ ad cap, u7 = .slice ad k cap := by obtain ⟨x, y, e⟩ := hown.form; rw [HTL.out] at e; exact ⟨x, y, e⟩
        obtain ⟨xs, hx⟩ := hown.row
        rw [HTL.out] at hx
        have HX : Hid (wr.ownsRow w1.heap.size 93 3 (.slice adu k capu) k xs) := hx
        have HBX : Hid (Below wr.heap.size wr (wr.alloc (.cells #[.int .i64 g[k].op, .int .i64 g[k].num, .slice adk g[k].kids.length capk] 93))) := box_below _ _
        have HKX : Hid (CIn (wr.alloc (.cells #[.int .i64 g[k].op, .int .i64 g[k].num, .slice adk g[k].kids.length capk] 93)).drew g (.slice (some ⟨bl, off, none⟩) g.length cap)) := ((HK.out.next (HB1.out.trans (hb.mono HB1.out.size))).next HBX.out).drew
        have HIX : Hid (IIn (wr.alloc (.cells #[.int .i64 g[k].op, .int .i64 g[k].num, .slice adk g[k].kids.length capk] 93)).drew (plI (kidsN g k)) (.slice adk g[k].kids.length capk)) := kids_pl HG.out hlt ((hkk.next HBX.out).drew)
        have x0 := box_cell wr #[.int .i64 g[k].op, .int .i64 g[k].num, .slice adk g[k].kids.length capk] 93 0 _ rfl
        have x1 := box_cell wr #[.int .i64 g[k].op, .int .i64 g[k].num, .slice adk g[k].kids.length capk] 93 1 _ rfl
        have x2 := box_cell wr #[.int .i64 g[k].op, .int .i64 g[k].num, .slice adk g[k].kids.length capk] 93 2 _ rfl
        have HXX : Hid ((wr.alloc (.cells #[.int .i64 g[k].op, .int .i64 g[k].num, .slice adk g[k].kids.length capk] 93)).heap[wr.heap.size]? = some (.cells #[.int .i64 g[k].op, .int .i64 g[k].num, .slice adk g[k].kids.length capk] 93)) := Deep.blk_alloc_new _ _
        have HSX : Hid ((wr.alloc (.cells #[.int .i64 g[k].op, .int .i64 g[k].num, .slice adk g[k].kids.length capk] 93)).heap.size = wr.heap.size + 1) := Deep.nblk_alloc _ _
        have HLK := mkHid (kidsN_lt HG.out k hlt)
        have HK3 := mkHid (kidsN_len HG.out k hlt)
        have HKN : Hid ((kidsN g k).length = g[k].kids.length) := by rw [Hid, kidsN_at k hlt]; simp
        obtain ⟨iC, zC, hII⟩ := infoC1
        have HII : Hid (Tryz.prog.info? 93 = some iC ∧ iC.zero = some zC ∧ iC.size = 3 ∧ iC.bytes = 40 ∧ zC.cells.size = 3) := hII
        have HCALL : Hid (Calls Tryz.prog 109 #[.slice (some ⟨bl, off, none⟩) g.length cap, .slice adk g[k].kids.length capk] (wr.alloc (.cells #[.int .i64 g[k].op, .int .i64 g[k].num, .slice adk g[k].kids.length capk] 93)).drew (PastAt g k g[k].kids.length wr (.cells #[.int .i64 g[k].op, .int .i64 g[k].num, .slice adk g[k].kids.length capk] 93))) :=
          (pastInds_calls g (kidsN g k) _ _ _ HKX.out HG.out HIX.out HLK.out (by have := HK3.out; omega)).mono fun e w5 h => past_at HXX.out HSX.out (by rw [List.length_map]; exact HKN.out) h
        clear hown hb hkk io iN hx hII
        go_wp2_with fail
        go_region_held3 (fun w' => w'.cell? ⟨wr.heap.size, 0, none⟩ = some (.int .i64 g[k].op) ∧ w'.cell? ⟨wr.heap.size, 1, none⟩ = some (.int .i64 g[k].num) ∧ w'.cell? ⟨wr.heap.size, 2, none⟩ = some (.slice adk g[k].kids.length capk))
          (first
            | go_keep
            | exact ⟨e0, e1, e2⟩
            | exact ⟨d0, d1, d2⟩
            | exact ⟨old_cell d0 _, old_cell d1 _, old_cell d2 _⟩
            | exact ⟨x0, x1, x2⟩)
          (first
            | (go_at_call 109; refine HCALL.out.mono ?_; rintro e w5 ⟨ad5, cap5, rfl, hs5, hb5, hx5⟩; have HB5 := mkHid hb5; have HS5 := mkHid hs5; have HX5 := mkHid hx5; have d0 := cell_of_blk hx5 0 _ rfl; have d1 := cell_of_blk hx5 1 _ rfl; have d2 := cell_of_blk hx5 2 _ rfl; have HL5 : Hid (wr.heap.size < w5.heap.size) := cell_lt d0; clear hs5 hb5 hx5)
            | (refine step_append_where (by rfl) (.tmp 20) (.tmp 30) 28 (by rfl) w1.heap.size 93 iC zC 3 40 Tryz.underlying28 HII.out.1 HII.out.2.1 HII.out.2.2.1 HII.out.2.2.2.1 HII.out.2.2.2.2 (by decide) (.slice adu k capu) k xs (by rfl) (copy_own HX.out HB5.out _) ⟨w5.heap.size, 0, none⟩ 1 1 [.int .i64 g[k].op, .int .i64 g[k].num, .slice ad5 g[k].kids.length cap5] (by rfl) (by rfl) (news3c w5 _ _ _) (by simp [Value.oneCell']) (by unfold maxLen; omega) (by omega) (by show w1.heap.size ≤ (w5.alloc _).heap.size; rw [Deep.nblk_alloc]; have := HB5.out.size; omega) (by omega) ?_; intro v3 w3 hown3 hg3 hw3; have HOWN3 : Hid (w3.ownsRow w1.heap.size 93 3 v3 (k + 1) (xs ++ [.int .i64 g[k].op, .int .i64 g[k].num, .slice ad5 g[k].kids.length cap5])) := hown3; have HG3 : Hid ((w5.alloc (.cells #[.int .i64 g[k].op, .int .i64 g[k].num, .slice ad5 g[k].kids.length cap5] 93)).grownBy w3 (Value.slice adu k capu).ownBlock) := hg3; have HB3 : Hid (Below w1.heap.size w1 w3) := copy_below3 HB.out HB5.out HX.out hg3; have hX3 := past_keep HX.out HX5.out HB5.out hg3; have e0 := cell_of_blk hX3 0 _ rfl; have e1 := cell_of_blk hX3 1 _ rfl; have e2 := cell_of_blk hX3 2 _ rfl; clear hown3 hg3 hw3 hX3))
        go_wp2_with fail
        go_roundw
        case rel =>
          refine ⟨k + 1, by omega, by go_num, ?_, HB3.out⟩
          have h := copy_push (G := (g.take k).map (shortC g)) (ws := (kidsN g k).map (skipN g)) (o := g[k].op) (n := g[k].num) HO.out hsz HB5.out HS5.out _ (by rw [HTL.out]; exact copy_own HX.out HB5.out _) (by rw [HTL.out]; exact HOWN3.out) HG3.out HIO.out.1 HIO.out.2
          rw [List.take_succ_eq_append_getElem hlt, List.map_append, List.map_singleton, short_kids HG.out k hlt]
          exact h
        case measure => simp [intOf]; omega
      · have hke : k = g.length := by omega
        have HC : Hid (CIn wr (shortG g) u7) := by
          have h := HO.out
          rw [hke, List.take_length] at h
          exact (h.own fun k h _ => h).inn
        clear hown hb hke
        go_wp2_with fail
        refine (pastInds_calls g (natL rs) _ _ _ (HK.out.next (HB1.out.trans (HB.out.mono HB1.out.size))) HG.out (HR2.out.next HB.out) (root_lt HT.out) (by have := (rootB_iff.1 HT.out).2.1; rw [natL_len]; omega)).mono ?_
        rintro e w2 ⟨tv, rfl, hs, hb2⟩
        have HB2 : Hid (Below w.heap.size w w2) := (HB1.out.trans (HB.out.mono HB1.out.size)).trans (hb2.mono (Nat.le_trans HB1.out.size HB.out.size))
        have HC2 := mkHid (HC.out.next hb2)
        have HS := mkHid hs.pin
        have HLT := mkHid (pastInds_lt HG.out (natL rs) (root_lt HT.out))
        have HRB : Hid (rootB (shortG g) (plI ((natL rs).map (skipN g))) = true) := rootB_plI (shortG_valid HG.out) (by rw [List.length_map, natL_len]; exact (rootB_iff.1 HT.out).2.1) HLT.out
        have HVV := mkHid (copyO_yes HRB.out)
        clear hs hb2
        go_wp2_with fail
        refine (implCopyG_calls (shortG g) (plI ((natL rs).map (skipN g))) _ _ _ HC2.out HS.out).mono ?_
        rintro e w3 ⟨gv, tv3, rfl, hres, hb3⟩
        rw [HVV.out, natL_plI] at hres
        rw [HRB.out]
        have HRES := mkHid hres
        have HB3 : Hid (Below w.heap.size w w3) := HB2.out.trans (hb3.mono HB2.out.size)
        have HSZ := mkHid HB2.out.size
        clear hres hb3
        go_wp2_with fail
        go_ret3
        rw [HV.out, HT.out]
        exact ⟨_, _, rfl, HRES.out.lower HSZ.out, HB3.out⟩
end Go.Proofs.YtidijbnoaeopdaaGreatDoor
