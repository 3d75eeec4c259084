/-
  THE PROGRAM's canCopy, CopyGraph AND CopyOrder.
-/
import Derived.Test.YtiipcgnkfhjpeaaGreatDoorMgExactStepRun38
import Derived.Test.YtiipcgnkfhjpeaaGreatDoorMgExactStepRun32
import Derived.Test.YtiipcgnkfhjpeaaGreatDoorMgExactStepRun19
import Derived.Test.YtiipcgnkfhjpeaaGreatDoorMgExactStepRun15
import Derived.Test.YtiipcgnkfhjpeaaGreatDoorMgExactStepRun20
import Derived.Test.YtiipcgnkfhjpeaaGreatDoorMgExactStepRun21
import Derived.Test.YtiipcgnkfhjpeaaGreatDoorMgExactStepRun22
import Derived.Test.YtiipcgnkfhjpeaaGreatDoorMgExactStepRun1
namespace Go.Proofs.YtiipcgnkfhjpeaaGreatDoor
set_option linter.unusedVariables false
set_option linter.unusedSimpArgs false
open Go.RowKit

set_option maxHeartbeats 800000 in
theorem canCopy_calls (g : List Ce) (rs : List Int) (v rv : Value) (w : World) (hk : CIn w g v) (hr : IIn w rs rv) :
    Calls Tryz.prog 100 #[v, rv] w fun e w' => e = .returned (.bool (rootB g rs)) ∧ Below w.heap.size w w' := by
  have HK : Hid (CIn w g v) := hk
  have HR : Hid (IIn w rs rv) := hr
  obtain ⟨ad, cap, rfl, hl, hm, -⟩ := hk
  obtain ⟨adr, capr, rfl, hlr, hmr, -⟩ := hr
  unfold maxLen at hm hmr
  go_enter Tryz.func100, Tryz.ntmps100
  go_wp2_with fail
  refine (implGraph_calls g 6 _ _ HK.out).mono ?_
  rintro e w1 ⟨rfl, hb1⟩
  have HB1 : Hid (Below w.heap.size w w1) := hb1
  clear hb1
  cases hg : graphB g 6 with
  | false =>
    have HV : Hid (rootB g rs = false) := by unfold Hid rootB; rw [hg]; rfl
    clear hg
    go_wp2_with fail
    go_ret
    exact ⟨ret_bool HV.out.symm, HB1.out⟩
  | true =>
    have HG : Hid (graphB g 6 = true) := hg
    clear hg
    by_cases h20 : (rs.length : Int) ≤ 20
    · have HV : Hid (rootB g rs = rs.all (isAt g.length)) := by unfold Hid rootB; rw [HG.out, decide_eq_true (by omega)]; rfl
      go_wp2_with fail
      refine (areCells_calls g.length cap ad rs _ _ (by omega) (HR.out.next HB1.out)).mono ?_
      rintro e w2 ⟨rfl, hb2⟩
      have HB2 : Hid (Below w.heap.size w w2) := HB1.out.trans (hb2.mono HB1.out.size)
      clear hb2
      go_wp2_with fail
      go_ret
      exact ⟨ret_bool HV.out.symm, HB2.out⟩
    · have HV : Hid (rootB g rs = false) := by unfold Hid rootB; rw [decide_eq_false (by omega)]; simp
      go_wp2_with fail
      go_ret
      exact ⟨ret_bool HV.out.symm, HB1.out⟩

/-- a graph and numbers in rows of their own, and whether -/
def OwnGI (r : List Ce × List Nat) (ok : Bool) (w : World) (e : Ending) (w' : World) : Prop :=
  ∃ gv tv, e = .returned (.tuple #[gv, tv, .bool ok]) ∧ GIRes r.1 (plI r.2) gv tv w w' ∧ Below w.heap.size w w'

set_option maxHeartbeats 800000 in
theorem implCopyG_calls (g : List Ce) (rs : List Int) (v rv : Value) (w : World) (hk : CIn w g v) (hr : IIn w rs rv) :
    Calls Tryz.prog 102 #[v, rv] w (OwnGI (copyO g rs) (rootB g rs) w) := by
  have HK : Hid (CIn w g v) := hk
  have HR : Hid (IIn w rs rv) := hr
  clear hk hr
  go_enter Tryz.func102, Tryz.ntmps102
  go_wp2_with fail
  refine (canCopy_calls g rs _ _ _ HK.out HR.out).mono ?_
  rintro e w1 ⟨rfl, hb1⟩
  have HB1 : Hid (Below w.heap.size w w1) := hb1
  clear hb1
  cases hg : rootB g rs with
  | false =>
    have HV := mkHid (copyO_no hg)
    have HT := mkHid hg
    clear hg
    go_wp2_with fail
    go_ret3
    rw [HV.out, HT.out]
    exact ⟨_, _, rfl, gi_res (lo := w1.heap.size) (OwnC.nil _ _ (fun _ => False)) (fun _ h => h.elim) (no_ints _ _ _ 0 (by simp [maxLen])) HB1.out.size (Nat.le_refl _), HB1.out⟩
  | true =>
    have HT := mkHid hg
    have HV := mkHid (copyO_yes hg)
    have HR2 : Hid (IIn w1 (plI (natL rs)) rv) := by
      have h := HR.out.next HB1.out
      rw [root_back hg] at h
      exact h
    clear hg
    go_wp2_with fail
    refine (copyFrom_calls g (natL rs) _ _ _ (HK.out.next HB1.out) HR2.out (rootB_iff.1 HT.out).1 (root_lt HT.out) (by rw [natL_len]; exact (rootB_iff.1 HT.out).2.1)).mono ?_
    rintro e w2 ⟨C, M, fv, gv, ov, tv, S, rfl, hC, hbx, hog, hS, hoo, hot, hb2⟩
    have c1 := cell_of_blk hbx 1 _ rfl
    have HRES := mkHid (gi_res hog hS hot.row HB1.out.size hb2.size)
    have HB2 : Hid (Below w.heap.size w w2) := HB1.out.trans (hb2.mono HB1.out.size)
    clear hbx hog hS hoo hot hb2
    go_wp2_with fail
    go_ret3
    rw [HV.out, HT.out]
    exact ⟨_, _, rfl, HRES.out, HB2.out⟩

end Go.Proofs.YtiipcgnkfhjpeaaGreatDoor
/-
  THE PROGRAM's pastInds: cells past indirections, in a new row.
-/
namespace Go.Proofs.YtiipcgnkfhjpeaaGreatDoor
set_option linter.unusedVariables false
set_option linter.unusedSimpArgs false
open Go.RowKit

theorem skip_some {g : List Ce} {a b : Nat} (h : followN g g.length a = some b) : skipN g a = b := by unfold skipN; rw [h]; rfl
theorem skip_none {g : List Ce} {a : Nat} (h : followN g g.length a = none) : skipN g a = a := by unfold skipN; rw [h]; rfl

set_option maxRecDepth 100000 in
set_option maxHeartbeats 1600000 in
theorem pastInds_calls (g : List Ce) (ls : List Nat) (v lv : Value) (w : World) (hk : CIn w g v) (hg : graphB g 6 = true) (hlv : IIn w (plI ls) lv) (hll : ∀ x ∈ ls, x < g.length) (hz : ls.length ≤ 1048576) :
    Calls Tryz.prog 101 #[v, lv] w (NewStk (ls.map (skipN g)) w) := by
  have HK := mkHid hk
  have HG := mkHid hg
  have HLV := mkHid hlv
  have HLL := mkHid hll
  obtain ⟨ad, cap, rfl, -, -, -⟩ := hk
  obtain ⟨adl, capl, rfl, hlc, hlm⟩ := pl_form hlv
  unfold maxLen at hlm
  clear hg hlv hll
  have HST : Hid (Stk w w.heap.size ((ls.take 0).map (skipN g)) (.slice none 0 0)) := World.ownsRow_nil _ _ _ _
  go_enter Tryz.func101, Tryz.ntmps101
  go_wp2_with fail
  go_loopw [5, 12] (fun pv z wr => ∃ k : Nat, k ≤ ls.length ∧ z = .int .i64 k ∧ Stk wr w.heap.size ((ls.take k).map (skipN g)) pv ∧ Below w.heap.size w wr) (fun _ z _ => ls.length - (intOf z).toNat)
  case atStart => exact ⟨0, Nat.zero_le _, rfl, HST.out, Below.refl _ _⟩
  case round =>
    obtain ⟨k, hk, rfl, hst, hb⟩ := hrel
    have HS := mkHid hst
    have HB : Hid (Below w.heap.size w wr) := hb
    have hsw := hb.size
    have hjl : ((ls.take k).map (skipN g)).length = k := by rw [List.length_map, List.length_take]; omega
    have HJL := mkHid hjl
    obtain ⟨adp, capp, rfl⟩ : ∃ ad cap, u5 = .slice ad k cap := by obtain ⟨x, y, e⟩ := hst.len; rw [hjl] at e; exact ⟨x, y, e⟩
    clear hst hjl
    by_cases hlt : k < ls.length
    · obtain ⟨bl, off, x, rfl, hbl, hx, hxm, d0w⟩ := pl_at HLV.out k hlt
      have d0 := (hb.cell (p := ⟨bl, off + k, none⟩) hbl).trans d0w
      have hxl := HLL.out x hxm
      have HX := mkHid hx
      clear hb hx hxm d0w
      go_wp2_with fail
      refine (standsFor_calls g x _ _ (HK.out.next HB.out) ⟨6, HG.out⟩ hxl).mono ?_
      rintro e w1 ⟨rfl, hb1⟩
      have HB1 : Hid (Below w.heap.size w w1) := HB.out.trans (hb1.mono HB.out.size)
      have HS1 : Hid (Stk w1 w.heap.size ((ls.take k).map (skipN g)) (.slice adp k capp)) := HS.out.next hb1
      have hzw := HB1.out.size
      obtain ⟨m, hm⟩ : ∃ m, m = skipN g x := ⟨_, rfl⟩
      have HM := mkHid hm
      have HS3 : Hid (Stk (w1.alloc (.cells #[.int .i64 (m : Int)] 3)) w.heap.size ((ls.take k).map (skipN g)) (.slice adp k capp)) := HS1.out.alloc _
      have HK3 : Hid (IIn (w1.alloc (.cells #[.int .i64 (m : Int)] 3)) [(m : Int)] (.slice (some ⟨w1.heap.size, 0, none⟩) 1 1)) := one_in w1 m
      have HLO : Hid (w.heap.size ≤ (w1.alloc (.cells #[.int .i64 (m : Int)] 3)).heap.size) := by rw [Hid, Deep.nblk_alloc]; omega
      clear hb1 d0
      cases hf : followN g g.length x with
      | none =>
        obtain rfl : m = x := by rw [HM.out, skip_none hf]
        clear hf hm
        have e1 : folO none = 0 := rfl
        have e2 : (none : Option Nat).isSome = false := rfl
        rw [e1, e2]
        clear e1 e2
        go_wp2_with (at_builtin; go_must (refine wpList_push rfl _ _ rfl _ w.heap.size ((ls.take k).map (skipN g)) [m] (.slice adp k capp) (.slice (some ⟨w1.heap.size, 0, none⟩) 1 1) rfl HS3.out rfl HK3.out rfl HLO.out (by rw [HJL.out]; simp; omega) ?_); go_must (intro v' w5 hst5 hg5); go_must (have HS5 := mkHid hst5); go_must (have HB5 : Hid (Below w.heap.size w w5) := push_below HS3.out (HB1.out.alloc hzw _) (Nat.le_refl _) hg5 (Nat.le_refl _)); clear hst5 hg5)
        have HS6 : Hid (Stk w5 w.heap.size ((ls.take (k + 1)).map (skipN g)) v') := by
          rw [Hid, take_snoc HX.out, List.map_append, List.map_singleton, ← HM.out]; exact HS5.out
        go_roundw
        case rel => first | exact ⟨k + 1, by omega, by go_num, HS6.out, HB5.out⟩ | ((repeat apply Exists.intro); exact ⟨⟨k + 1, by omega, by go_num, HS6.out, HB5.out⟩, rfl⟩)
        case measure => simp [intOf]; omega
      | some b =>
        obtain rfl : m = b := by rw [HM.out, skip_some hf]
        clear hf hm
        have e1 : folO (some m) = (m : Int) := rfl
        have e2 : (some m).isSome = true := rfl
        rw [e1, e2]
        clear e1 e2
        go_wp2_with (at_builtin; go_must (refine wpList_push rfl _ _ rfl _ w.heap.size ((ls.take k).map (skipN g)) [m] (.slice adp k capp) (.slice (some ⟨w1.heap.size, 0, none⟩) 1 1) rfl HS3.out rfl HK3.out rfl HLO.out (by rw [HJL.out]; simp; omega) ?_); go_must (intro v' w5 hst5 hg5); go_must (have HS5 := mkHid hst5); go_must (have HB5 : Hid (Below w.heap.size w w5) := push_below HS3.out (HB1.out.alloc hzw _) (Nat.le_refl _) hg5 (Nat.le_refl _)); clear hst5 hg5)
        have HS6 : Hid (Stk w5 w.heap.size ((ls.take (k + 1)).map (skipN g)) v') := by
          rw [Hid, take_snoc HX.out, List.map_append, List.map_singleton, ← HM.out]; exact HS5.out
        go_roundw
        case rel => first | exact ⟨k + 1, by omega, by go_num, HS6.out, HB5.out⟩ | ((repeat apply Exists.intro); exact ⟨⟨k + 1, by omega, by go_num, HS6.out, HB5.out⟩, rfl⟩)
        case measure => simp [intOf]; omega
    · have hke : k = ls.length := by omega
      have HV : Hid (Stk wr w.heap.size (ls.map (skipN g)) (.slice adp k capp)) := by
        have h := HS.out
        rw [hke, List.take_length] at h
        rw [hke]; exact h
      clear hb hke
      go_wp2_with fail
      go_ret
      exact ⟨_, rfl, HV.out, HB.out⟩
end Go.Proofs.YtiipcgnkfhjpeaaGreatDoor
/-
  THE PROGRAM's CollectGraph.
-/
namespace Go.Proofs.YtiipcgnkfhjpeaaGreatDoor
set_option linter.unusedVariables false
set_option linter.unusedSimpArgs false
open Go.RowKit

theorem natL_plI (l : List Nat) : natL (plI l) = l := by
  unfold natL plI; rw [List.map_map]; conv => rhs; rw [← List.map_id l]
  exact List.map_congr_left fun a _ => by simp
theorem rootB_plI {g : List Ce} {l : List Nat} (hg : graphB g 6 = true) (h20 : l.length ≤ 20) (hl : ∀ x ∈ l, x < g.length) : rootB g (plI l) = true := by
  refine rootB_iff.2 ⟨hg, by rw [plI_length]; exact h20, ?_⟩
  rw [List.all_eq_true]
  intro x hx
  simp only [plI, List.mem_map] at hx
  obtain ⟨a, ha, rfl⟩ := hx
  have := hl a ha
  exact isAt_in (by omega) (by omega)
theorem short_kids {g : List Ce} {defs : Int} (hg : graphB g defs = true) (k : Nat) (hk : k < g.length) : shortC g g[k] = ⟨g[k].op, g[k].num, ((kidsN g k).map (skipN g)).map fun (a : Nat) => (a : Int)⟩ := by
  unfold shortC
  rw [kidsN_at k hk, List.map_map, List.map_map, List.map_map]
  rfl
theorem pastInds_lt {g : List Ce} {defs : Int} (hg : graphB g defs = true) (l : List Nat) (h : ∀ x ∈ l, x < g.length) : ∀ x ∈ l.map (skipN g), x < (shortG g).length := by
  intro x hx
  simp only [List.mem_map] at hx
  obtain ⟨a, ha, rfl⟩ := hx
  rw [shortG_len]
  exact skip_lt hg (h a ha)
/-- what pastInds leaves of the operands of cell k, a copy of which lies in the box wr.heap.size -/
def PastAt (g : List Ce) (k n : Nat) (wr : World) (o : Obj) (e : Ending) (w5 : World) : Prop :=
  ∃ ad cap, e = .returned (.slice ad n cap) ∧ Stk w5 wr.heap.size ((kidsN g k).map (skipN g)) (.slice ad n cap) ∧ Below wr.heap.size wr w5 ∧ w5.heap[wr.heap.size]? = some o
theorem past_at {g : List Ce} {k n : Nat} {wr w5 : World} {o : Obj} {e : Ending} (hx : (wr.alloc o).heap[wr.heap.size]? = some o) (hs : (wr.alloc o).heap.size = wr.heap.size + 1) (hl : ((kidsN g k).map (skipN g)).length = n) (h : NewStk ((kidsN g k).map (skipN g)) (wr.alloc o).drew e w5) : PastAt g k n wr o e w5 := by
  obtain ⟨v, rfl, hst, hb⟩ := h
  have hb2 : Below (wr.alloc o).heap.size (wr.alloc o) w5 := ((Below.refl _ _).drew).trans hb
  obtain ⟨ad, cap, rfl⟩ := stk_len2 hst hl
  exact ⟨ad, cap, rfl, hst.lower (by show _ ≤ (wr.alloc o).heap.size; omega), (box_below wr o).trans (hb2.mono (by omega)), (hb2.block _ (by omega)).trans hx⟩
theorem past_keep {wr w5 w3 : World} {lo k : Nat} {v : Value} {xs : List Value} {C : Array Value} {T : TypeId} {o : Obj} (hx : wr.ownsRow lo 93 3 v k xs) (h5 : w5.heap[wr.heap.size]? = some (.cells C T)) (hb : Below wr.heap.size wr w5) (hg : (w5.alloc o).grownBy w3 v.ownBlock) : w3.heap[wr.heap.size]? = some (.cells C T) := by
  have hl := (Array.getElem?_eq_some_iff.1 h5).1
  exact ((hg.block wr.heap.size (by rw [Deep.nblk_alloc]; omega) (fun e => by have := (own_some hx _ e.symm).2; omega)).trans (Deep.blk_alloc_lt _ _ _ hl)).trans h5

set_option maxRecDepth 100000 in
set_option maxHeartbeats 3200000 in
theorem implColl_calls (g : List Ce) (rs : List Int) (v rv : Value) (w : World) (hk : CIn w g v) (hr : IIn w rs rv) :
    Calls Tryz.prog 80 #[v, rv] w (OwnGI (collO g rs) (rootB g rs) w) := by
  have HK : Hid (CIn w g v) := hk
  have HR : Hid (IIn w rs rv) := hr
  obtain ⟨ad, cap, rfl, hl, hm, -⟩ := hk
  unfold maxLen at hm
  clear hr
  go_enter Tryz.func80, Tryz.ntmps80
  go_wp2_with fail
  refine (canCopy_calls g rs _ _ _ HK.out HR.out).mono ?_
  rintro e w1 ⟨rfl, hb1⟩
  have HB1 : Hid (Below w.heap.size w w1) := hb1
  clear hb1
  cases hg : rootB g rs with
  | false =>
    have HV := mkHid (collO_no hg)
    have HT := mkHid hg
    clear hg
    go_wp2_with fail
    go_ret3
    rw [HV.out, HT.out]
    exact ⟨_, _, rfl, gi_res (lo := w1.heap.size) (OwnC.nil _ _ (fun _ => False)) (fun _ h => h.elim) (no_ints _ _ _ 0 (by simp [maxLen])) HB1.out.size (Nat.le_refl _), HB1.out⟩
  | true =>
    have HT := mkHid hg
    have HV := mkHid (collO_yes hg)
    have HG := mkHid (rootB_iff.1 hg).1
    have HR2 : Hid (IIn w1 (plI (natL rs)) rv) := by
      have h := HR.out.next HB1.out
      rw [root_back hg] at h
      exact h
    have h400 : g.length ≤ 400 := graphB_len HG.out
    have HST : Hid (OwnC w1 w1.heap.size (fun b => w1.heap.size ≤ b) ((g.take 0).map (shortC g)) (.slice none 0 0)) := OwnC.nil _ _ _
    clear hg
    go_wp2_with fail
    go_loopw [7, 16] (fun out z wr => ∃ k : Nat, k ≤ g.length ∧ z = .int .i64 k ∧ OwnC wr w1.heap.size (fun b => w1.heap.size ≤ b) ((g.take k).map (shortC g)) out ∧ Below w1.heap.size w1 wr) (fun _ z _ => g.length - (intOf z).toNat)
    case atStart => exact ⟨0, Nat.zero_le _, rfl, HST.out, Below.refl _ _⟩
    case round =>
      obtain ⟨k, hk, rfl, hown, hb⟩ := hrel
      have HO := mkHid hown
      have HB : Hid (Below w1.heap.size w1 wr) := hb
      have hsz := hb.size
      by_cases hlt : k < g.length
      · obtain ⟨bl, off, r2, rfl, c0, c1, c2, io, iN, hkk⟩ := (HK.out.next (HB1.out.trans (hb.mono HB1.out.size))).at k hlt
        obtain ⟨adk, capk, rfl, -, -, -⟩ := id hkk
        have HIO : Hid (I64 g[k].op ∧ I64 g[k].num) := ⟨io, iN⟩
        have HTL : Hid (((g.take k).map (shortC g)).length = k) := by rw [Hid, List.length_map, List.length_take]; omega
        obtain ⟨adu, capu, rfl⟩ : ∃ ad cap, u7 = .slice ad k cap := by obtain ⟨x, y, e⟩ := hown.form; rw [HTL.out] at e; exact ⟨x, y, e⟩
        obtain ⟨xs, hx⟩ := hown.row
        rw [HTL.out] at hx
        have HX : Hid (wr.ownsRow w1.heap.size 93 3 (.slice adu k capu) k xs) := hx
        have HBX : Hid (Below wr.heap.size wr (wr.alloc (.cells #[.int .i64 g[k].op, .int .i64 g[k].num, .slice adk g[k].kids.length capk] 93))) := box_below _ _
        have HKX : Hid (CIn (wr.alloc (.cells #[.int .i64 g[k].op, .int .i64 g[k].num, .slice adk g[k].kids.length capk] 93)).drew g (.slice (some ⟨bl, off, none⟩) g.length cap)) := ((HK.out.next (HB1.out.trans (hb.mono HB1.out.size))).next HBX.out).drew
        have HIX : Hid (IIn (wr.alloc (.cells #[.int .i64 g[k].op, .int .i64 g[k].num, .slice adk g[k].kids.length capk] 93)).drew (plI (kidsN g k)) (.slice adk g[k].kids.length capk)) := kids_pl HG.out hlt ((hkk.next HBX.out).drew)
        have x0 := box_cell wr #[.int .i64 g[k].op, .int .i64 g[k].num, .slice adk g[k].kids.length capk] 93 0 _ rfl
        have x1 := box_cell wr #[.int .i64 g[k].op, .int .i64 g[k].num, .slice adk g[k].kids.length capk] 93 1 _ rfl
        have x2 := box_cell wr #[.int .i64 g[k].op, .int .i64 g[k].num, .slice adk g[k].kids.length capk] 93 2 _ rfl
        have HXX : Hid ((wr.alloc (.cells #[.int .i64 g[k].op, .int .i64 g[k].num, .slice adk g[k].kids.length capk] 93)).heap[wr.heap.size]? = some (.cells #[.int .i64 g[k].op, .int .i64 g[k].num, .slice adk g[k].kids.length capk] 93)) := Deep.blk_alloc_new _ _
        have HSX : Hid ((wr.alloc (.cells #[.int .i64 g[k].op, .int .i64 g[k].num, .slice adk g[k].kids.length capk] 93)).heap.size = wr.heap.size + 1) := Deep.nblk_alloc _ _
        have HLK := mkHid (kidsN_lt HG.out k hlt)
        have HK3 := mkHid (kidsN_len HG.out k hlt)
        have HKN : Hid ((kidsN g k).length = g[k].kids.length) := by rw [Hid, kidsN_at k hlt]; simp
        obtain ⟨iC, zC, hII⟩ := infoC1
        have HII : Hid (Tryz.prog.info? 93 = some iC ∧ iC.zero = some zC ∧ iC.size = 3 ∧ iC.bytes = 40 ∧ zC.cells.size = 3) := hII
        have HCALL : Hid (Calls Tryz.prog 101 #[.slice (some ⟨bl, off, none⟩) g.length cap, .slice adk g[k].kids.length capk] (wr.alloc (.cells #[.int .i64 g[k].op, .int .i64 g[k].num, .slice adk g[k].kids.length capk] 93)).drew (PastAt g k g[k].kids.length wr (.cells #[.int .i64 g[k].op, .int .i64 g[k].num, .slice adk g[k].kids.length capk] 93))) :=
          (pastInds_calls g (kidsN g k) _ _ _ HKX.out HG.out HIX.out HLK.out (by have := HK3.out; omega)).mono fun e w5 h => past_at HXX.out HSX.out (by rw [List.length_map]; exact HKN.out) h
        clear hown hb hkk io iN hx hII
        go_wp2_with fail
        go_region_held3 (fun w' => w'.cell? ⟨wr.heap.size, 0, none⟩ = some (.int .i64 g[k].op) ∧ w'.cell? ⟨wr.heap.size, 1, none⟩ = some (.int .i64 g[k].num) ∧ w'.cell? ⟨wr.heap.size, 2, none⟩ = some (.slice adk g[k].kids.length capk))
          (first
            | go_keep
            | exact ⟨e0, e1, e2⟩
            | exact ⟨d0, d1, d2⟩
            | exact ⟨old_cell d0 _, old_cell d1 _, old_cell d2 _⟩
            | exact ⟨x0, x1, x2⟩)
          (first
            | (go_at_call 101; refine HCALL.out.mono ?_; rintro e w5 ⟨ad5, cap5, rfl, hs5, hb5, hx5⟩; have HB5 := mkHid hb5; have HS5 := mkHid hs5; have HX5 := mkHid hx5; have d0 := cell_of_blk hx5 0 _ rfl; have d1 := cell_of_blk hx5 1 _ rfl; have d2 := cell_of_blk hx5 2 _ rfl; have HL5 : Hid (wr.heap.size < w5.heap.size) := cell_lt d0; clear hs5 hb5 hx5)
            | (refine step_append_where (by rfl) (.tmp 20) (.tmp 30) 28 (by rfl) w1.heap.size 93 iC zC 3 40 Tryz.underlying28 HII.out.1 HII.out.2.1 HII.out.2.2.1 HII.out.2.2.2.1 HII.out.2.2.2.2 (by decide) (.slice adu k capu) k xs (by rfl) (copy_own HX.out HB5.out _) ⟨w5.heap.size, 0, none⟩ 1 1 [.int .i64 g[k].op, .int .i64 g[k].num, .slice ad5 g[k].kids.length cap5] (by rfl) (by rfl) (news3c w5 _ _ _) (by simp [Value.oneCell']) (by unfold maxLen; omega) (by omega) (by show w1.heap.size ≤ (w5.alloc _).heap.size; rw [Deep.nblk_alloc]; have := HB5.out.size; omega) (by omega) ?_; intro v3 w3 hown3 hg3 hw3; have HOWN3 : Hid (w3.ownsRow w1.heap.size 93 3 v3 (k + 1) (xs ++ [.int .i64 g[k].op, .int .i64 g[k].num, .slice ad5 g[k].kids.length cap5])) := hown3; have HG3 : Hid ((w5.alloc (.cells #[.int .i64 g[k].op, .int .i64 g[k].num, .slice ad5 g[k].kids.length cap5] 93)).grownBy w3 (Value.slice adu k capu).ownBlock) := hg3; have HB3 : Hid (Below w1.heap.size w1 w3) := copy_below3 HB.out HB5.out HX.out hg3; have hX3 := past_keep HX.out HX5.out HB5.out hg3; have e0 := cell_of_blk hX3 0 _ rfl; have e1 := cell_of_blk hX3 1 _ rfl; have e2 := cell_of_blk hX3 2 _ rfl; clear hown3 hg3 hw3 hX3))
        go_wp2_with fail
        go_roundw
        case rel =>
          refine ⟨k + 1, by omega, by go_num, ?_, HB3.out⟩
          have h := copy_push (G := (g.take k).map (shortC g)) (ws := (kidsN g k).map (skipN g)) (o := g[k].op) (n := g[k].num) HO.out hsz HB5.out HS5.out _ (by rw [HTL.out]; exact copy_own HX.out HB5.out _) (by rw [HTL.out]; exact HOWN3.out) HG3.out HIO.out.1 HIO.out.2
          rw [List.take_succ_eq_append_getElem hlt, List.map_append, List.map_singleton, short_kids HG.out k hlt]
          exact h
        case measure => simp [intOf]; omega
      · have hke : k = g.length := by omega
        have HC : Hid (CIn wr (shortG g) u7) := by
          have h := HO.out
          rw [hke, List.take_length] at h
          exact (h.own fun k h _ => h).inn
        clear hown hb hke
        go_wp2_with fail
        refine (pastInds_calls g (natL rs) _ _ _ (HK.out.next (HB1.out.trans (HB.out.mono HB1.out.size))) HG.out (HR2.out.next HB.out) (root_lt HT.out) (by have := (rootB_iff.1 HT.out).2.1; rw [natL_len]; omega)).mono ?_
        rintro e w2 ⟨tv, rfl, hs, hb2⟩
        have HB2 : Hid (Below w.heap.size w w2) := (HB1.out.trans (HB.out.mono HB1.out.size)).trans (hb2.mono (Nat.le_trans HB1.out.size HB.out.size))
        have HC2 := mkHid (HC.out.next hb2)
        have HS := mkHid hs.pin
        have HLT := mkHid (pastInds_lt HG.out (natL rs) (root_lt HT.out))
        have HRB : Hid (rootB (shortG g) (plI ((natL rs).map (skipN g))) = true) := rootB_plI (shortG_valid HG.out) (by rw [List.length_map, natL_len]; exact (rootB_iff.1 HT.out).2.1) HLT.out
        have HVV := mkHid (copyO_yes HRB.out)
        clear hs hb2
        go_wp2_with fail
        refine (implCopyG_calls (shortG g) (plI ((natL rs).map (skipN g))) _ _ _ HC2.out HS.out).mono ?_
        rintro e w3 ⟨gv, tv3, rfl, hres, hb3⟩
        rw [HVV.out, natL_plI] at hres
        rw [HRB.out]
        have HRES := mkHid hres
        have HB3 : Hid (Below w.heap.size w w3) := HB2.out.trans (hb3.mono HB2.out.size)
        have HSZ := mkHid HB2.out.size
        clear hres hb3
        go_wp2_with fail
        go_ret3
        rw [HV.out, HT.out]
        exact ⟨_, _, rfl, HRES.out.lower HSZ.out, HB3.out⟩
end Go.Proofs.YtiipcgnkfhjpeaaGreatDoor
/-
  THE PROGRAM's isSelection, partOf AND redirect, precisely.
-/
namespace Go.Proofs.YtiipcgnkfhjpeaaGreatDoor
set_option linter.unusedVariables false
set_option linter.unusedSimpArgs false
open Go.RowKit

theorem isSel_calls (op n : Int) (adk : Option Addr) (nk ck : Nat) (ks : List Int) (w : World) :
    Calls Tryz.prog 124 #[.agg #[.int .i64 op, .int .i64 n, .slice adk nk ck]] w fun e w' => e = .returned (.bool (selB ⟨op, n, ks⟩)) ∧ Below w.heap.size w w' := by
  have HB : Hid (Below w.heap.size w (w.alloc (.cells #[.int .i64 op, .int .i64 n, .slice adk nk ck] 93))) := box_below _ _
  have HV : Hid (selB ⟨op, n, ks⟩ = (op == 6 || op == 7)) := rfl
  by_cases h6 : op = 6
  · have t6 : (op == 6) = true := by simp [h6]
    have HR : Hid (selB ⟨op, n, ks⟩ = true) := by rw [Hid, HV.out, t6]; rfl
    clear h6
    go_enter Tryz.func124, Tryz.ntmps124
    go_wp2_with fail
    go_ret
    exact ⟨ret_bool HR.out.symm, HB.out⟩
  · have t6 : (op == 6) = false := by simp [h6]
    by_cases h7 : op = 7
    · have t7 : (op == 7) = true := by simp [h7]
      have HR : Hid (selB ⟨op, n, ks⟩ = true) := by rw [Hid, HV.out, t6, t7]; rfl
      clear h6 h7
      go_enter Tryz.func124, Tryz.ntmps124
      go_wp2_with fail
      go_ret
      exact ⟨ret_bool HR.out.symm, HB.out⟩
    · have t7 : (op == 7) = false := by simp [h7]
      have HR : Hid (selB ⟨op, n, ks⟩ = false) := by rw [Hid, HV.out, t6, t7]; rfl
      clear h6 h7
      go_enter Tryz.func124, Tryz.ntmps124
      go_wp2_with fail
      go_ret
      exact ⟨ret_bool HR.out.symm, HB.out⟩
theorem partA_calls (op o n : Int) (xs : List Int) (k : Nat) (kv : Value) (w : World) (hk : IIn w xs kv) (h0 : 0 < xs.length) (he : xs[0] = (k : Int)) (ht : (op == 6) = true) :
    Calls Tryz.prog 123 #[.int .i64 op, .agg #[.int .i64 o, .int .i64 n, kv]] w fun e w' => e = .returned (.int .i64 (k : Int)) ∧ Below w.heap.size w w' := by
  obtain ⟨ad, cap, rfl, hl, hm, -⟩ := id hk
  obtain ⟨bk, ok, rfl, d0⟩ := hk.at 0 h0
  rw [he, Nat.add_zero] at d0
  have x2 := box_cell w #[.int .i64 o, .int .i64 n, .slice (some ⟨bk, ok, none⟩) xs.length cap] 93 2 _ rfl
  have dk := old_cell d0 (.cells #[.int .i64 o, .int .i64 n, .slice (some ⟨bk, ok, none⟩) xs.length cap] 93)
  have h0I : (0 : Int) < (xs.length : Int) := by omega
  have HB : Hid (Below w.heap.size w (w.alloc (.cells #[.int .i64 o, .int .i64 n, .slice (some ⟨bk, ok, none⟩) xs.length cap] 93))) := box_below _ _
  clear hk he d0
  go_enter Tryz.func123, Tryz.ntmps123
  go_wp2_with fail
  go_ret
  exact ⟨rfl, HB.out⟩
theorem partB_calls (op o n : Int) (xs : List Int) (k : Nat) (kv : Value) (w : World) (hk : IIn w xs kv) (h0 : 1 < xs.length) (he : xs[1] = (k : Int)) (ht : (op == 6) = false) :
    Calls Tryz.prog 123 #[.int .i64 op, .agg #[.int .i64 o, .int .i64 n, kv]] w fun e w' => e = .returned (.int .i64 (k : Int)) ∧ Below w.heap.size w w' := by
  obtain ⟨ad, cap, rfl, hl, hm, -⟩ := id hk
  obtain ⟨bk, ok, rfl, d0⟩ := hk.at 1 h0
  rw [he] at d0
  have x2 := box_cell w #[.int .i64 o, .int .i64 n, .slice (some ⟨bk, ok, none⟩) xs.length cap] 93 2 _ rfl
  have dk := old_cell d0 (.cells #[.int .i64 o, .int .i64 n, .slice (some ⟨bk, ok, none⟩) xs.length cap] 93)
  have h0I : (1 : Int) < (xs.length : Int) := by omega
  have HB : Hid (Below w.heap.size w (w.alloc (.cells #[.int .i64 o, .int .i64 n, .slice (some ⟨bk, ok, none⟩) xs.length cap] 93))) := box_below _ _
  clear hk he d0
  go_enter Tryz.func123, Tryz.ntmps123
  go_wp2_with fail
  go_ret
  exact ⟨rfl, HB.out⟩
/-- the part that a selection takes of a pair -/
theorem part_calls {G : List Ce} {defs : Int} (hg : graphB G defs = true) (i q : Nat) (hi : i < G.length) (hq : q < G.length) (hs : G[i].op = 6 ∨ G[i].op = 7) (h5 : G[q].op = 5) (kv : Value) (w : World) (hk : IIn w G[q].kids kv) :
    Calls Tryz.prog 123 #[.int .i64 G[i].op, .agg #[.int .i64 G[q].op, .int .i64 G[q].num, kv]] w fun e w' => e = .returned (.int .i64 (partG G (opAt G i) q : Int)) ∧ Below w.heap.size w w' := by
  have h2 := pair_kids hg hq h5
  rcases hs with h | h
  · have e : partG G (opAt G i) q = kidAt G q 0 := by unfold partG; rw [opAt_at i hi, h]; rfl
    rw [e]
    exact partA_calls _ _ _ _ _ _ _ hk (by omega) (kidAt_get hg q hq 0 (by omega)).1 (by rw [h]; rfl)
  · have e : partG G (opAt G i) q = kidAt G q 1 := by unfold partG; rw [opAt_at i hi, h]; rfl
    rw [e]
    exact partB_calls _ _ _ _ _ _ _ hk (by omega) (kidAt_get hg q hq 1 (by omega)).1 (by rw [h]; rfl)

set_option maxRecDepth 100000 in
set_option maxHeartbeats 1600000 in
theorem redirectE_calls (A b N cap at' k lo : Nat) (ys : List Value) (w : World) (hA : w.heap[A]? = some (.cells #[.slice (some ⟨b, 0, none⟩) N cap] 142)) (hys : w.ownsRow lo 93 3 (.slice (some ⟨b, 0, none⟩) N cap) N ys) (hat : at' < N) (hN : N ≤ 1048576) :
    Calls Tryz.prog 122 #[.pointer (some ⟨A, 0, none⟩), .int .i64 (at' : Int), .int .i64 (k : Int)] w fun e w' => e = .returned (.tuple #[]) ∧ st3 (w.alloc (.cells #[.int .i64 (k : Int)] 3)) b at' 11 0 (.slice (some ⟨w.heap.size, 0, none⟩) 1 1) = w' := by
  have a0 := cell_of_blk hA 0 _ rfl
  have a0' := old_cell a0 (.cells #[.int .i64 (k : Int)] 3)
  have hys2 := World.ownsRow.alloc hys (.cells #[.int .i64 (k : Int)] 3)
  obtain ⟨q0, y0⟩ := own_cellW hys2 (at' * 3) (by omega)
  obtain ⟨q1, y1⟩ := own_cellW hys2 (at' * 3 + 1) (by omega)
  obtain ⟨q2, y2⟩ := own_cellW hys2 (at' * 3 + 2) (by omega)
  have f0 := hys2.frozenAt (at' * 3)
  have f1 := hys2.frozenAt (at' * 3 + 1)
  have f2 := hys2.frozenAt (at' * 3 + 2)
  have hatI : (at' : Int) < (N : Int) := by omega
  clear hys hys2 hA
  go_enter Tryz.func122, Tryz.ntmps122
  go_wp2_with fail
  go_end0
  exact ⟨rfl, rfl⟩
end Go.Proofs.YtiipcgnkfhjpeaaGreatDoor
