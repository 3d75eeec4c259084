/-
  THE MODEL's l3Draw: a program, a valid graph for it, and a root.
-/
import Derived.Test.YtglpehelmlehiaaMb7
import Derived.Test.YtglpehelmlehiaaMb10
import Derived.Test.YtglpehelmlehiaaMb11
import Derived.Test.YtglpehelmlehiaaMb8
import Derived.Deep.LoopGhost
import Derived.Deep.RegionHeld3
namespace Go.Proofs.Ytglpehelmlehiaa
set_option linter.unusedVariables false
set_option linter.unusedSimpArgs false
open Go.RowKit

/-- a program, a graph for it and a root were drawn -/
def DrawG (w : World) (b p : Nat) (e : Ending) (w' : World) : Prop :=
  ∃ ds G r pv gv p', e = .returned (.tuple #[pv, gv, .int .i64 ((r : Nat) : Int)]) ∧ progB ds = true ∧ graphB G ds.length = true ∧ r < G.length ∧ G.length ≤ 250 ∧ DefsOn w' (PN w.heap.size w') ds pv ∧ OwnC w' w.heap.size (fun x => w.heap.size ≤ x) G gv ∧ RdOn w' b p' ∧ p' ≤ p + 12000 ∧ But b w w'

theorem OwnC.cinL {w : World} {lo : Nat} {G : List Ce} {v : Value} (h : OwnC w lo (fun x => lo ≤ x) G v) : CIn w G v := (h.own fun _ h _ => h).inn
theorem OwnC.but {w w' : World} {b lo : Nat} {G : List Ce} {v : Value} (h : OwnC w lo (fun x => lo ≤ x) G v) (hb : But b w w') (hl : b < lo) : OwnC w' lo (fun x => lo ≤ x) G v := by
  obtain ⟨xs, hx⟩ := h.row
  exact h.next (fun _ h _ => h) (fun k hk hk2 => hb.block k hk2 (by have := (own_some hx k hk.symm).1; omega)) fun k hk hk2 => hb.block k hk2 (by have : lo ≤ k := hk; omega)
theorem but_grown {b : Nat} {w2 W w3 : World} {row : Option Nat} (h : But b w2 W) (hg : W.grownBy w3 row) (hr : ∀ k, row = some k → w2.heap.size ≤ k) : But b w2 w3 :=
  ⟨hg.os.trans h.os, hg.tape.trans h.tape, hg.output.trans h.output, Nat.le_trans h.size hg.size, fun k hk hb => (hg.block k (Nat.lt_of_lt_of_le hk h.size) (fun e => by have := hr k e.symm; omega)).trans (h.block k hk hb)⟩
theorem rd_grown {b p : Nat} {W w3 : World} {row : Option Nat} (h : RdOn W b p) (hg : W.grownBy w3 row) (hr : ∀ k, row = some k → b < k) : RdOn w3 b p :=
  h.keep fun k hk => hg.block k (Nat.lt_of_le_of_lt hk h.lt) (fun e => by have := hr k e.symm; omega)

/-- what AddExpr answers in a valid graph -/
theorem addOut_cases {G : List Ce} {n : Nat} (hG : graphB G n = true) (t : Tr) (xs : List Int) : addOut G t xs n = ([], 0, false) ∨ ∃ G5 r5, addOut G t xs n = (G5, r5, true) ∧ graphB G5 n = true ∧ r5 < G5.length ∧ G5.length ≤ G.length + 60 := by
  by_cases h : graphB G n = true ∧ validB t xs.length n = true ∧ xs.all (isAt G.length) = true ∧ (addT (xs.map Int.toNat) t G).1.length ≤ 400
  · refine Or.inr ⟨_, _, addOut_yes h.1 h.2.1 h.2.2.1 h.2.2.2, ?_⟩
    have hv := h.2.1
    unfold validB at hv
    simp only [Bool.and_eq_true, decide_eq_true_eq] at hv
    obtain ⟨⟨hv1, hv2, hv3, hv4⟩, hv5, hv6⟩ := hv
    have hok := addT_ok (defs := n) (args := xs.map Int.toNat) 16 t G (graphB_iff.1 hG).2 (fun x hx => by
      simp only [List.mem_map] at hx
      obtain ⟨z, hz, rfl⟩ := hx
      have := List.all_eq_true.1 h.2.2.1 z hz
      unfold isAt at this
      simp at this
      omega) (by rw [List.length_map]; exact hv5)
    refine ⟨graphB_iff.2 ⟨⟨by omega, hv3, hv4⟩, hok.1⟩, hok.2, ?_⟩
    have := (addT_size (xs.map Int.toNat) t G).2.1
    omega
  · exact Or.inl (addOut_no h)
theorem addOut_goal {t : Tr} {n : Nat} (hv : validB t 0 n = true) : ∃ G5 r5, addOut [] t [] n = (G5, r5, true) ∧ graphB G5 n = true ∧ r5 < G5.length ∧ G5.length ≤ 60 := by
  refine ⟨_, _, by rw [addOut_closed, if_pos hv], ?_⟩
  unfold validB at hv
  simp only [Bool.and_eq_true, decide_eq_true_eq] at hv
  obtain ⟨⟨hv1, hv2, hv3, hv4⟩, hv5, hv6⟩ := hv
  have hok := addT_ok (defs := n) (args := []) 16 t [] (fun c hc => absurd hc (by simp)) (fun x hx => absurd hx (by simp)) (by simpa using hv5)
  have hz := (addT_size [] t []).2.1
  simp only [List.length_nil] at hz
  exact ⟨graphB_iff.2 ⟨⟨by omega, hv3, hv4⟩, hok.1⟩, hok.2, by omega⟩
theorem graphB_ind {G : List Ce} {n r : Nat} (h : graphB G n = true) (hr : r < G.length) (hl : G.length < 400) : graphB (G ++ [indTo r]) n = true := by
  obtain ⟨⟨h1, h2, h3⟩, h4⟩ := graphB_iff.1 h
  refine graphB_iff.2 ⟨⟨by simp; omega, h2, h3⟩, fun c hc => ?_⟩
  rw [List.mem_append, List.mem_singleton] at hc
  have h5 := h4.mono (M := (G ++ [indTo r]).length) (by simp)
  rcases hc with hc | rfl
  · exact h5 c hc
  · have := ind_fits (defs := n) (N := (G ++ [indTo r]).length) (k := r) (by simp; omega)
    exact this

/-- the graph so far -/
structure LdR (ds : List Df) (b lo : Nat) (w2 wr : World) (G : List Ce) (r i p1 : Nat) (gv : Value) : Prop where
  own : OwnC wr lo (fun x => lo ≤ x) G gv
  val : graphB G ds.length = true
  root : r < G.length
  len : G.length + 61 * i ≤ 243
  rd : RdOn wr b p1
  but : But b w2 wr
theorem LdR.next {ds : List Df} {b lo : Nat} {w2 wr w3 : World} {G : List Ce} {r i p1 p2 : Nat} {gv : Value} (h : LdR ds b lo w2 wr G r i p1 gv) (hb : But b wr w3) (hl : b < lo) (hr : RdOn w3 b p2) : LdR ds b lo w2 w3 G r i p2 gv :=
  ⟨h.own.but hb hl, h.val, h.root, h.len, hr, h.but.trans hb⟩

theorem own_frm {w : World} {lo n T s : Nat} {v : Value} {xs : List Value} (h : w.ownsRow lo T s v n xs) : ∃ ad cap, v = .slice ad n cap := by
  rcases h.2 with ⟨rfl, h0⟩ | ⟨g, cap, cur, rfl, -⟩
  · exact ⟨none, 0, by rw [h0]⟩
  · exact ⟨_, _, rfl⟩
/-- two numbers in a row that was just laid -/
theorem ints2_at {w w' : World} {b : Nat} {x y : Int} (hb : But b (w.alloc (.cells #[.int .i64 x, .int .i64 y] 3)) w') (hl : b < w.heap.size) : IIn w' [x, y] (.slice (some ⟨w.heap.size, 0, none⟩) 2 2) := by
  have h := (hb.block w.heap.size (by rw [Deep.nblk_alloc]; omega) (by omega)).trans (Deep.blk_alloc_new _ _)
  refine ⟨_, 2, rfl, Nat.le_refl _, by simp [maxLen], Or.inr ⟨_, 0, rfl, (Array.getElem?_eq_some_iff.1 h).1, fun i hi => ?_⟩⟩
  have hi2 : i = 0 ∨ i = 1 := by simp at hi; omega
  rcases hi2 with rfl | rfl
  · exact cell_of_blk h 0 _ rfl
  · exact cell_of_blk h 1 _ rfl
/-- an indirection is added -/
theorem LdR.ind {ds : List Df} {b lo : Nat} {w2 w6 w8 : World} {G : List Ce} {r i p1 : Nat} {gv v' : Value} {xs : List Value} (h : LdR ds b lo w2 w6 G r i p1 gv) (hlo : lo = w2.heap.size) (hl : b < lo) (hlen : G.length < 400) (hl2 : G.length + 1 + 61 * i ≤ 243) (cobj : Obj)
    (hx : ((w6.alloc (.cells #[.int .i64 (r : Int)] 3)).alloc cobj).ownsRow lo 48 3 gv G.length xs)
    (hown : w8.ownsRow lo 48 3 v' (G.length + 1) (xs ++ [.int .i64 11, .int .i64 0, .slice (some ⟨w6.heap.size, 0, none⟩) 1 1])) (hg : ((w6.alloc (.cells #[.int .i64 (r : Int)] 3)).alloc cobj).grownBy w8 gv.ownBlock) :
    LdR ds b lo w2 w8 (G ++ [indTo r]) G.length i p1 v' := by
  have hbA : Below w6.heap.size w6 ((w6.alloc (.cells #[.int .i64 (r : Int)] 3)).alloc cobj) := (box_below _ _).trans ((box_below _ _).mono (by rw [Deep.nblk_alloc]; omega))
  have hrow : ∀ k, gv.ownBlock = some k → lo ≤ k := fun k hk => (own_some hx k hk).1
  have hs6 : lo ≤ w6.heap.size := by rw [hlo]; exact h.but.size
  have h4 : OwnC ((w6.alloc (.cells #[.int .i64 (r : Int)] 3)).alloc cobj) lo (fun x => lo ≤ x ∧ x < w6.heap.size) G gv := h.own.next (fun k hk hk2 => ⟨hk, hk2⟩) (fun k _ hk => hbA.block k hk) fun k _ hk => hbA.block k hk
  have hk : KRowS ((w6.alloc (.cells #[.int .i64 (r : Int)] 3)).alloc cobj) (fun x => x = w6.heap.size) [(r : Int)] w6.heap.size (.slice (some ⟨w6.heap.size, 0, none⟩) 1 1) := (krow_one w6 r).keep (fun _ h _ => h) fun C h1 h2 _ => Deep.blk_alloc_lt _ _ _ h2
  have h5 := h4.step (c := indTo r) (v' := v') ⟨by simp [I64, indTo], by simp [I64, indTo]⟩ hk (fun h => by have := h.2; omega) xs hx hown hg
  refine ⟨h5.next (fun k hk _ => ?_) (fun _ _ _ => rfl) (fun _ _ _ => rfl), graphB_ind h.val h.root hlen, by simp, by simp; omega, ?_, ?_⟩
  · rcases hk with hk | rfl
    · exact hk.1
    · exact hs6
  · exact rd_grown (h.rd.next hbA) hg fun k hk => by have := hrow k hk; omega
  · exact but_grown (h.but.trans (But.of_below hbA)) hg fun k hk => by have := hrow k hk; omega

set_option maxRecDepth 100000 in
set_option maxHeartbeats 1600000 in
theorem l3Draw_calls (w : World) (b p : Nat) (h : RdOn w b p) (hp : p ≤ 900000) : Calls Try.prog 82 #[.pointer (some ⟨b, 0, none⟩)] w (DrawG w b p) := by
  have hbw := h.lt
  have HR := mkHid h
  clear h
  go_enter Try.func82, Try.ntmps82
  go_wp2_with fail
  refine (l2Goal_calls w b p HR.out (by omega)).mono ?_
  rintro e w1 ⟨ds, t, pv, kv, p1, rfl, hpr, hvt, hto, htn, hd1, hk1, hr1, hp1, hb1⟩
  have HP := mkHid hpr
  have HV := mkHid hvt
  have HT := mkHid (And.intro hto htn)
  have HD1 := mkHid hd1
  have HK1 := mkHid hk1
  have HR1 := mkHid hr1
  have HB1 := mkHid hb1
  have hs1 := hb1.size
  obtain ⟨adp, capp, rfl, hcp1, hcp2, -⟩ := id hd1
  obtain ⟨ade, cape, rfl, -, -, -⟩ := id hk1
  unfold maxLen at hcp2
  have hn6 : ds.length ≤ 6 := by
    have h := hpr
    unfold progB at h
    simp only [Bool.and_eq_true, decide_eq_true_eq] at h
    exact h.1
  clear hpr hvt hto htn hd1 hk1 hr1 hb1
  obtain ⟨G0, r0, hao, hG0, hr0, hl0⟩ := addOut_goal HV.out
  have HSB : Hid (∀ (W : World) (v : Value), In W t.kids v → Calls Try.prog 107 #[.agg #[.int .i64 t.op, .int .i64 t.num, v], .int .i64 (ds.length : Int)] W fun e w' => ∃ gv, e = .returned (.tuple #[gv, .int .i64 (r0 : Int), .bool true]) ∧ OwnC w' W.heap.size (fun x => W.heap.size ≤ x) G0 gv ∧ Below W.heap.size W w') := fun W v h => (specBuild_calls t ds.length v W h HT.out.1 HT.out.2).mono fun e w' ho => by rw [hao] at ho; exact ho
  clear hao
  go_wp2_with fail
  obtain ⟨w2, hw2⟩ : ∃ w2 : World, w2 = w1.alloc (.cells #[.int .i64 t.op, .int .i64 t.num, .slice ade t.kids.length cape] 32) := ⟨_, rfl⟩
  rw [← hw2]
  have hb2 : Below w1.heap.size w1 w2 := by rw [hw2]; exact box_below _ _
  have hz2 : w2.heap.size = w1.heap.size + 1 := by rw [hw2]; exact Deep.nblk_alloc _ _
  have HB2 : Hid (But b w w2) := HB1.out.trans (But.of_below hb2)
  have HR2 := mkHid (HR1.out.next hb2)
  have HD2 : Hid (DefsOn w2 (PN w.heap.size w2) ds (.slice adp ds.length capp)) := defs_but HD1.out (But.of_below (b := b) hb2) hbw
  have HI2 : Hid (In w2 t.kids (.slice ade t.kids.length cape)) := HK1.out.mono (fun k hk => by have := hk.2; show k < w2.heap.size; omega) fun k hk => hb2.block k hk.2
  obtain ⟨lo, hlo⟩ : ∃ lo, lo = w2.heap.size := ⟨_, rfl⟩
  have HLO := mkHid hlo
  have hbl : b < lo := by omega
  clear hw2 hb2
  refine (HSB.out w2 _ HI2.out).mono ?_
  rintro e w3 ⟨gv, rfl, ho3, hb3⟩
  have HL3 : Hid (LdR ds b lo w2 w3 G0 r0 3 p1 gv) := ⟨by rw [hlo]; exact ho3, hG0, hr0, by omega, HR2.out.next hb3, But.of_below hb3⟩
  obtain ⟨adg, capg, rfl⟩ := ho3.form
  clear ho3 hb3 hG0 hr0 hl0 hz2
  go_wp2_with fail
  refine (pick_calls 4 _ b p1 HL3.out.rd (by omega) (by decide)).mono ?_
  rintro e w4 ⟨x, rfl, h0, h1, -, hr4, hb4⟩
  obtain ⟨i0, rfl⟩ := Int.eq_ofNat_of_zero_le h0
  have hi0 : i0 ≤ 3 := by have := h1 (by omega); omega
  have HL4 : Hid (LdR ds b lo w2 w4 G0 r0 i0 (p1 + 1) (.slice adg G0.length capg)) := by
    have h := HL3.out.next hb4 hbl hr4
    exact ⟨h.own, h.val, h.root, by have := h.len; omega, h.rd, h.but⟩
  clear h0 h1 hr4 hb4 hlo
  go_wp2_with fail
  go_loopw [7, 8, 10] (fun gv rv iv wr => ∃ (G : List Ce) (r i p1 : Nat), iv = .int .i64 (i : Int) ∧ rv = .int .i64 (r : Int) ∧ i ≤ 3 ∧ p1 + 2100 * i ≤ p + 11400 ∧ Hid (LdR ds b lo w2 wr G r i p1 gv)) (fun _ _ iv _ => (intOf iv).toNat)
  case atStart => exact ⟨G0, r0, i0, p1 + 1, rfl, rfl, hi0, by omega, HL4.out⟩
  case round =>
    obtain ⟨G, r, i, q1, rfl, rfl, hi, hpos, HL⟩ := hrel
    obtain ⟨adw, capw, rfl⟩ := HL.out.own.form
    have hlen := HL.out.len
    have hroot := HL.out.root
    have hwl : w.heap.size ≤ lo := by have := HLO.out; have := HB2.out.size; omega
    by_cases hi0' : i = 0
    · subst hi0'
      go_wp2_with fail
      exact bodyPost_ret (v := .tuple #[.slice adp ds.length capp, .slice adw G.length capw, .int .i64 (r : Int)]) (by simp [results, Try.results82, go_sem]) rfl ⟨ds, G, r, _, _, q1, rfl, HP.out, HL.out.val, hroot, by omega, defs_but HD2.out HL.out.but hbw, HL.out.own.downS hwl (fun k hk => Nat.le_trans hwl hk), HL.out.rd, by omega, HB2.out.trans HL.out.but⟩
    obtain ⟨m, rfl⟩ : ∃ m, i = m + 1 := ⟨i - 1, by omega⟩
    have hg0 : 0 < G.length := by omega
    have hg0i : (0 : Int) < (G.length : Int) := by omega
    go_wp2_with fail
    refine (pick_calls (G.length : Int) _ b q1 HL.out.rd (by omega) (by omega)).mono ?_
    rintro e w4 ⟨x, rfl, h0, h1, -, hr4, hb4⟩
    obtain ⟨x, rfl⟩ := Int.eq_ofNat_of_zero_le h0
    have HLA := mkHid (HL.out.next hb4 hbl hr4)
    have hsz4 : lo ≤ w4.heap.size := by rw [HLO.out]; exact HLA.out.but.size
    have HLB : Hid (LdR ds b lo w2 (w4.alloc (.cells #[.int .i64 (x : Int), .int .i64 (r : Int)] 3)) G r (m + 1) (q1 + 1) (.slice adw G.length capw)) := HLA.out.next (But.of_below (box_below _ _)) hbl (HLA.out.rd.next (box_below _ _))
    clear h0 h1 hr4 hb4
    go_wp2_with fail
    refine (num_calls [3, 2, 4] (.slice (some ⟨w4.heap.size + 1, 0, none⟩) 3 3) _ b (q1 + 1) (HLB.out.rd.next (box_below _ _)) (by omega) (ints_at (w4.alloc (.cells #[.int .i64 (x : Int), .int .i64 (r : Int)] 3)) (w4.heap.size + 1) (Deep.nblk_alloc _ _) b [3, 2, 4] #[.int .i64 3, .int .i64 2, .int .i64 4] (by omega) rfl (ints_gen [3, 2, 4])) (by simp) (by simp)).mono ?_
    rintro e w5 ⟨z, rfl, hz, hr5, hb5⟩
    have hbb5 : But b (w4.alloc (.cells #[.int .i64 (x : Int), .int .i64 (r : Int)] 3)) w5 := (But.of_below (box_below _ _)).trans hb5
    have HB45 := mkHid hbb5
    have HLC := mkHid (HLB.out.next hbb5 hbl hr5)
    obtain ⟨d, hd, rfl⟩ := small_of hz (by decide)
    have h8 := some_le hd
    have HDL := mkHid hd
    clear hz hr5 hb5 hbb5 hd
    go_wp2_with fail
    refine (sm_any d (by have := HDL.out; omega) 2 ds.length w5 b (q1 + 1 + 1) (by omega) (by omega) HLC.out.rd (by omega)).mono ?_
    rintro e w6 ⟨u, c, q6, rfl, huo, hun, hk6, hsz, hr6, hp6, hb6⟩
    have HU := mkHid (And.intro huo hun)
    have HLD := mkHid (HLC.out.next hb6 hbl hr6)
    have HB46 : Hid (But b (w4.alloc (.cells #[.int .i64 (x : Int), .int .i64 (r : Int)] 3)) w6) := HB45.out.trans hb6
    have HXS := mkHid (ints2_at HB46.out (by omega))
    have HKU : Hid (In w6 u.kids c) := hk6.mono (fun _ h => h.2) fun _ _ => rfl
    have hq6 : q6 ≤ q1 + 2060 := by omega
    obtain ⟨adc, capc, rfl, -, -, -⟩ := id hk6
    clear huo hun hk6 hsz hr6 hp6 hb6 h8
    go_wp2_with fail
    have HAO := mkHid (specAddX_calls G u [(x : Int), (r : Int)] ds.length (.slice adw G.length capw) (.slice adc u.kids.length capc) (.slice (some ⟨w4.heap.size, 0, none⟩) 2 2) w6 HLD.out.own.cinL HKU.out HXS.out HU.out.1 HU.out.2)
    have HAC := mkHid (addOut_cases HLD.out.val u [(x : Int), (r : Int)])
    rcases HAC.out with hac | ⟨G5, r5, hac, hG5, hr5, hl5⟩
    · rw [hac] at HAO
      refine HAO.out.mono ?_
      rintro e w7 ⟨v7, rfl, ho7, hb7⟩
      have HLF : Hid (LdR ds b lo w2 w7 G r m q6 (.slice adw G.length capw)) := by
        have h := HLD.out.next (But.of_below hb7) hbl (HLD.out.rd.next hb7)
        exact ⟨h.own, h.val, h.root, by omega, h.rd, h.but⟩
      obtain ⟨ad7, cap7, rfl⟩ := ho7.form
      clear hac ho7 hb7
      simp only []
      go_wp2_with fail
      refine (pick_calls 3 _ b q6 HLF.out.rd (by omega) (by decide)).mono ?_
      rintro e w8 ⟨y, rfl, -, -, -, hr8, hb8⟩
      have HLG := mkHid (HLF.out.next hb8 hbl hr8)
      clear hr8 hb8
      by_cases hy : y = 0
      · subst hy
        have hlt400 : G.length < 400 := by omega
        obtain ⟨xs, hx⟩ := HLG.out.own.row
        have hbA : Below w8.heap.size w8 ((w8.alloc (.cells #[.int .i64 (r : Int)] 3)).alloc (.cells #[.int .i64 11, .int .i64 0, .slice (some ⟨w8.heap.size, 0, none⟩) 1 1] 48)) := (box_below _ _).trans ((box_below _ _).mono (by rw [Deep.nblk_alloc]; omega))
        have HX : Hid (((w8.alloc (.cells #[.int .i64 (r : Int)] 3)).alloc (.cells #[.int .i64 11, .int .i64 0, .slice (some ⟨w8.heap.size, 0, none⟩) 1 1] 48)).ownsRow lo 48 3 (.slice adw G.length capw) G.length xs) := own_keep hx fun k _ hk => hbA.block k hk
        obtain ⟨iC, zC, hII⟩ := infoC1
        have HII : Hid (Try.prog.info? 48 = some iC ∧ iC.zero = some zC ∧ iC.size = 3 ∧ iC.bytes = 40 ∧ zC.cells.size = 3) := hII
        have hs8 : lo ≤ w8.heap.size := by rw [HLO.out]; exact HLG.out.but.size
        have HN3 : Hid (∀ j u, [Value.int .i64 11, Value.int .i64 0, Value.slice (some ⟨w8.heap.size, 0, none⟩) 1 1][j]? = some u → ((w8.alloc (.cells #[.int .i64 (r : Int)] 3)).alloc (.cells #[.int .i64 11, .int .i64 0, .slice (some ⟨w8.heap.size, 0, none⟩) 1 1] 48)).cell? ((⟨w8.heap.size + 1, 0, none⟩ : Addr).add j) = some u) := by
          have h := news3c (w8.alloc (.cells #[.int .i64 (r : Int)] 3)) (.int .i64 11) (.int .i64 0) (.slice (some ⟨w8.heap.size, 0, none⟩) 1 1)
          rw [Deep.nblk_alloc] at h
          exact h
        clear hx hII hbA
        go_wp2_with (at_builtin; go_must (refine wpList_append_where _ rfl _ _ 24 rfl lo 48 iC zC 3 40 Try.underlying24 HII.out.1 HII.out.2.1 HII.out.2.2.1 HII.out.2.2.2.1 HII.out.2.2.2.2 (by decide) (.slice adw G.length capw) G.length xs rfl HX.out ⟨w8.heap.size + 1, 0, none⟩ 1 1 [.int .i64 11, .int .i64 0, .slice (some ⟨w8.heap.size, 0, none⟩) 1 1] rfl rfl HN3.out (by simp [Value.oneCell']) (by unfold maxLen; omega) (by omega) (by rw [Deep.nblk_alloc, Deep.nblk_alloc]; omega) (by omega) ?_); go_must (intro v9 w9 hown hg9 hw9); go_must (have HLH := mkHid (HLG.out.ind (v' := v9) (xs := xs) HLO.out hbl hlt400 (by omega) _ HX.out hown hg9)); go_must (obtain ⟨ad9, cap9, rfl⟩ : ∃ ad cap, v9 = .slice ad (G.length + 1) cap := own_frm hown); clear hown hg9 hw9)
        go_roundw
        case rel => exact ⟨G ++ [indTo r], G.length, m, q6 + 1, by go_num, by go_num, by omega, by omega, HLH.out⟩
        case measure => simp [intOf] <;> omega
      have hyb : (y == 0) = false := by simpa using hy
      clear hy
      go_wp2_with fail
      go_roundw
      case rel => exact ⟨G, r, m, q6 + 1, by go_num, rfl, by omega, by omega, HLG.out⟩
      case measure => simp [intOf] <;> omega
    · rw [hac] at HAO
      refine HAO.out.mono ?_
      rintro e w7 ⟨v7, rfl, ho7, hb7⟩
      have HLF : Hid (LdR ds b lo w2 w7 G5 r5 m q6 v7) := by
        have h := HLD.out.next (But.of_below hb7) hbl (HLD.out.rd.next hb7)
        have hlo6 : lo ≤ w6.heap.size := by rw [HLO.out]; exact HLD.out.but.size
        exact ⟨ho7.downS hlo6 (fun k hk => Nat.le_trans hlo6 hk), hG5, hr5, by omega, h.rd, h.but⟩
      obtain ⟨ad7, cap7, rfl⟩ := ho7.form
      clear hac ho7 hb7
      simp only [] at HLF ⊢
      go_wp2_with fail
      refine (pick_calls 3 _ b q6 HLF.out.rd (by omega) (by decide)).mono ?_
      rintro e w8 ⟨y, rfl, -, -, -, hr8, hb8⟩
      have HLG := mkHid (HLF.out.next hb8 hbl hr8)
      clear hr8 hb8
      by_cases hy : y = 0
      · subst hy
        have hlt400 : G5.length < 400 := by omega
        obtain ⟨xs, hx⟩ := HLG.out.own.row
        have hbA : Below w8.heap.size w8 ((w8.alloc (.cells #[.int .i64 (r5 : Int)] 3)).alloc (.cells #[.int .i64 11, .int .i64 0, .slice (some ⟨w8.heap.size, 0, none⟩) 1 1] 48)) := (box_below _ _).trans ((box_below _ _).mono (by rw [Deep.nblk_alloc]; omega))
        have HX : Hid (((w8.alloc (.cells #[.int .i64 (r5 : Int)] 3)).alloc (.cells #[.int .i64 11, .int .i64 0, .slice (some ⟨w8.heap.size, 0, none⟩) 1 1] 48)).ownsRow lo 48 3 (.slice ad7 G5.length cap7) G5.length xs) := own_keep hx fun k _ hk => hbA.block k hk
        obtain ⟨iC, zC, hII⟩ := infoC1
        have HII : Hid (Try.prog.info? 48 = some iC ∧ iC.zero = some zC ∧ iC.size = 3 ∧ iC.bytes = 40 ∧ zC.cells.size = 3) := hII
        have hs8 : lo ≤ w8.heap.size := by rw [HLO.out]; exact HLG.out.but.size
        have HN3 : Hid (∀ j u, [Value.int .i64 11, Value.int .i64 0, Value.slice (some ⟨w8.heap.size, 0, none⟩) 1 1][j]? = some u → ((w8.alloc (.cells #[.int .i64 (r5 : Int)] 3)).alloc (.cells #[.int .i64 11, .int .i64 0, .slice (some ⟨w8.heap.size, 0, none⟩) 1 1] 48)).cell? ((⟨w8.heap.size + 1, 0, none⟩ : Addr).add j) = some u) := by
          have h := news3c (w8.alloc (.cells #[.int .i64 (r5 : Int)] 3)) (.int .i64 11) (.int .i64 0) (.slice (some ⟨w8.heap.size, 0, none⟩) 1 1)
          rw [Deep.nblk_alloc] at h
          exact h
        clear hx hII hbA
        go_wp2_with (at_builtin; go_must (refine wpList_append_where _ rfl _ _ 24 rfl lo 48 iC zC 3 40 Try.underlying24 HII.out.1 HII.out.2.1 HII.out.2.2.1 HII.out.2.2.2.1 HII.out.2.2.2.2 (by decide) (.slice ad7 G5.length cap7) G5.length xs rfl HX.out ⟨w8.heap.size + 1, 0, none⟩ 1 1 [.int .i64 11, .int .i64 0, .slice (some ⟨w8.heap.size, 0, none⟩) 1 1] rfl rfl HN3.out (by simp [Value.oneCell']) (by unfold maxLen; omega) (by omega) (by rw [Deep.nblk_alloc, Deep.nblk_alloc]; omega) (by omega) ?_); go_must (intro v9 w9 hown hg9 hw9); go_must (have HLH := mkHid (HLG.out.ind (v' := v9) (xs := xs) HLO.out hbl hlt400 (by omega) _ HX.out hown hg9)); go_must (obtain ⟨ad9, cap9, rfl⟩ : ∃ ad cap, v9 = .slice ad (G5.length + 1) cap := own_frm hown); clear hown hg9 hw9)
        go_roundw
        case rel => exact ⟨G5 ++ [indTo r5], G5.length, m, q6 + 1, by go_num, by go_num, by omega, by omega, HLH.out⟩
        case measure => simp [intOf] <;> omega
      have hyb : (y == 0) = false := by simpa using hy
      clear hy
      go_wp2_with fail
      go_roundw
      case rel => exact ⟨G5, r5, m, q6 + 1, by go_num, rfl, by omega, by omega, HLG.out⟩
      case measure => simp [intOf] <;> omega
end Go.Proofs.Ytglpehelmlehiaa
/-
  THE MODEL's l4Spine: the function of nested applications of a graph, and the cells of these.
-/
namespace Go.Proofs.Ytglpehelmlehiaa
set_option linter.unusedVariables false
set_option linter.unusedSimpArgs false
open Go.RowKit

def spI (o : Option (Nat × List Nat)) : Int := match o with | some x => (x.1 : Int) | none => -1
/-- what l4Spine answers; of none, the cells are whatever -/
def SpineSaid (o : Option (Nat × List Nat)) (w : World) (e : Ending) (w' : World) : Prop :=
  ∃ (xs : List Nat) (v : Value), (∀ x, o = some x → xs = x.2) ∧ e = .returned (.tuple #[.int .i64 (spI o), v]) ∧ IntRow w' w.heap.size (plI xs) v ∧ Below w.heap.size w w'
/-- what SpineOf answers -/
def SpineOut (o : Option (Nat × List Nat)) (w : World) (e : Ending) (w' : World) : Prop :=
  ∃ v, e = .returned (.tuple #[.int .i64 (spF o), v, .bool o.isSome]) ∧ IntRow w' w.heap.size (plI (spL o)) v ∧ Below w.heap.size w w'
theorem SpRel.len_lt {g : List Ce} {a : Nat} {ws : List Nat} {b : Nat} (h : SpRel g a ws b) : ws.length ≤ g.length + 1 := h.len
theorem said_none {g : List Ce} {a : Nat} {w w' : World} {ws : List Nat} {v : Value} (h : spine g a = none) (hr : IntRow w' w.heap.size (plI ws) v) (hb : Below w.heap.size w w') : SpineSaid (spine g a) w (.returned (.tuple #[.int .i64 (-1), v])) w' := by
  rw [h]; exact ⟨ws, v, (fun _ h => by cases h), rfl, hr, hb⟩
theorem said_some {g : List Ce} {a f : Nat} {w w' : World} {ws : List Nat} {v : Value} (h : spine g a = some (f, ws)) (hr : IntRow w' w.heap.size (plI ws) v) (hb : Below w.heap.size w w') : SpineSaid (spine g a) w (.returned (.tuple #[.int .i64 (f : Int), v])) w' := by
  rw [h]; exact ⟨ws, v, (fun _ h => by cases h; rfl), rfl, hr, hb⟩

set_option maxRecDepth 100000 in
set_option maxHeartbeats 1600000 in
theorem l4Spine_calls (g : List Ce) (a : Nat) (v : Value) (w : World) (hk : CIn w g v) (hg : ∃ defs, graphB g defs = true) (ha : a < g.length) :
    Calls Try.prog 87 #[v, .int .i64 (a : Int)] w (SpineSaid (spine g a) w) := by
  have HK : Hid (CIn w g v) := hk
  obtain ⟨ad, cap, rfl, hl, hm, -⟩ := hk
  obtain ⟨defs, hg⟩ := hg
  have HG : Hid (graphB g defs = true) := hg
  have h400 : g.length ≤ 400 := graphB_len hg
  have H0 : Hid (Stk (w.alloc (.cells #[] 3)) w.heap.size [] (.slice (some ⟨w.heap.size, 0, none⟩) 0 0)) := ⟨rfl, Or.inr ⟨_, 0, _, rfl, Nat.le_refl _, Deep.blk_alloc_new _ _, Nat.le_refl _, by simp [maxLen], rfl, rfl⟩⟩
  unfold maxLen at hm
  clear hg
  go_enter Try.func87, Try.ntmps87
  go_wp2_with fail
  refine (l3Follow_calls g a _ _ (HK.out.next (box_below _ _)) ⟨defs, HG.out⟩ ha).mono ?_
  rintro e w1 ⟨rfl, hb1⟩
  rw [follow_enough HG.out a ha]
  have HB1 : Hid (Below w.heap.size w w1) := (box_below _ _).trans (hb1.mono (by rw [Deep.nblk_alloc]; omega))
  have HS1 : Hid (Stk w1 w.heap.size [] (.slice (some ⟨w.heap.size, 0, none⟩) 0 0)) := H0.out.keep fun k _ hk => hb1.block k hk
  clear hb1
  go_wp2_with fail
  go_loopg [6, 7] (g.length + 3) (fun k cs at' wr => ∃ (ws : List Nat) (b : Nat), Stk wr w.heap.size ws cs ∧ SpRel g a ws b ∧ at' = .int .i64 (folI (followN g g.length b)) ∧ g.length + 2 - ws.length < k ∧ Below w.heap.size w wr)
  case atStart => exact ⟨[], a, HS1.out, SpRel.start ha, rfl, by simp, HB1.out⟩
  case round =>
    obtain ⟨ws, b, hst, hsp, rfl, hms, hb⟩ := hrel
    have HS : Hid (Stk wr w.heap.size ws _) := hst
    have HR : Hid (SpRel g a ws b) := hsp
    have HB : Hid (Below w.heap.size w wr) := hb
    have hwl := hsp.len
    obtain ⟨adc, capc, rfl⟩ := hst.len
    clear hst hsp
    cases hf : followN g g.length b with
    | none =>
      have HV : Hid (spine g a = none) := by
        by_cases hl2 : ws.length ≤ g.length
        · exact HR.out.none hl2 hf
        · exact HR.out.out (by omega)
      have e1 : folI none = -1 := rfl
      rw [e1]
      clear hf hb
      by_cases hgt : g.length < ws.length
      · go_wp2_with fail
        go_ret2
        exact said_none HV.out (ws := []) (no_ints _ _ _ _ (by simp [maxLen])) (HB.out.alloc HB.out.size _)
      · go_wp2_with fail
        go_ret2
        exact said_none HV.out HS.out.row HB.out
    | some f =>
      have hfl := followN_lt HG.out _ _ _ HR.out.lt hf
      have hff : f < g.length := hfl.1
      have HF : Hid (followN g g.length b = some f) := hf
      have e1 : folI (some f) = (f : Int) := rfl
      rw [e1]
      obtain ⟨bl, off, r, rfl, c0w, c1w, c2w, -, -, hkk⟩ := HK.out.at f hff
      have hbl : bl < w.heap.size := cell_lt c0w
      have c0 := (hb.cell (p := ⟨bl, off + f * 3, none⟩) hbl).trans c0w
      have c2 := (hb.cell (p := ⟨bl, off + f * 3 + 2, none⟩) hbl).trans c2w
      clear hf hfl c0w c1w c2w
      by_cases ho : g[f].op = 4
      · have t1 : (g[f].op == 4) = true := by simp [ho]
        by_cases hgt : g.length < ws.length
        · have HV : Hid (spine g a = none) := HR.out.out hgt
          clear ho hb hkk
          go_wp2_with fail
          go_ret2
          exact said_none HV.out (ws := []) (no_ints _ _ _ _ (by simp [maxLen])) (HB.out.alloc HB.out.size _)
        · have hwl2 : ws.length ≤ g.length := by omega
          have h4 : opAt g f = 4 := by rw [opAt_at f hff]; exact ho
          have HR2 : Hid (SpRel g a (ws ++ [f]) (kidAt g f 0)) := HR.out.next HG.out hwl2 HF.out h4
          have hkl : 0 < g[f].kids.length := by
            have h1 := kids_count HG.out f hff
            rw [ho] at h1
            have e : cArity 4 = 2 := by decide
            omega
          obtain ⟨hk0, hk0l⟩ := kidAt_get HG.out f hff 0 hkl
          obtain ⟨ad2, cap2, rfl, hl2, hm2, -⟩ := id hkk
          obtain ⟨bl2, off2, rfl, d0w⟩ := hkk.at 0 hkl
          have d0 := (hb.cell (p := ⟨bl2, off2 + 0, none⟩) (cell_lt d0w)).trans d0w
          rw [hk0, Nat.add_zero] at d0
          have HKL : Hid (kidAt g f 0 < g.length) := hk0l
          have HC : Hid (wr.cell? ⟨bl, off + f * 3 + 2, none⟩ = some (.slice (some ⟨bl2, off2, none⟩) g[f].kids.length cap2)) := c2
          have HD : Hid (wr.cell? ⟨bl2, off2, none⟩ = some (.int .i64 (kidAt g f 0 : Int))) := d0
          have hbl2 : bl2 < w.heap.size := by have := cell_lt d0w; simpa using this
          have HS3 : Hid (Stk (wr.alloc (.cells #[.int .i64 (f : Int)] 3)) w.heap.size ws (.slice adc ws.length capc)) := HS.out.alloc _
          have HK3 : Hid (IIn (wr.alloc (.cells #[.int .i64 (f : Int)] 3)) [(f : Int)] (.slice (some ⟨wr.heap.size, 0, none⟩) 1 1)) := one_in wr f
          have HLO : Hid (w.heap.size ≤ (wr.alloc (.cells #[.int .i64 (f : Int)] 3)).heap.size) := by rw [Hid, Deep.nblk_alloc]; have := HB.out.size; omega
          have HOB : Hid (∀ j, (Value.slice adc ws.length capc).ownBlock = some j → w.heap.size ≤ j) := fun j hj => own_lo HS.out hj.symm
          have HZ : Hid (w.heap.size ≤ wr.heap.size) := HB.out.size
          clear ho hb hkk hk0 hk0l c2 d0 d0w hl2 hm2 h4
          go_wp2_with (at_builtin; go_must (refine wpList_push rfl _ _ rfl _ w.heap.size ws [f] (.slice adc ws.length capc) (.slice (some ⟨wr.heap.size, 0, none⟩) 1 1) rfl HS3.out rfl HK3.out rfl HLO.out (by simp; omega) ?_); go_must (intro v' w5 hst5 hg5); go_must (have HS5 : Hid (Stk w5 w.heap.size (ws ++ [f]) v') := hst5); go_must (have HN5 : Hid (∀ j, j < w.heap.size → w5.heap[j]? = wr.heap[j]?) := fun j hj => (hg5.block j (by have := HLO.out; omega) (fun e => by have := HOB.out j e.symm; omega)).trans (Deep.blk_alloc_lt _ _ _ (by have := HZ.out; omega))); go_must (have HB5 : Hid (Below w.heap.size w w5) := by have hb3 : Below w.heap.size w (wr.alloc (.cells #[.int .i64 (f : Int)] 3)) := HB.out.alloc HB.out.size _; exact ⟨by rw [hg5.os]; exact hb3.os, by rw [hg5.tape]; exact hb3.tape, by rw [hg5.output]; exact hb3.output, Nat.le_trans hb3.size hg5.size, fun j hj => (hg5.block j (by have := hb3.size; omega) (fun e => by have := HOB.out j e.symm; omega)).trans (hb3.block j hj)⟩); go_must (have c2 := (World.cell?_of_block (a := ⟨bl, off + f * 3 + 2, none⟩) (HN5.out bl hbl)).trans HC.out); go_must (have d0 := (World.cell?_of_block (a := ⟨bl2, off2, none⟩) (HN5.out bl2 hbl2)).trans HD.out); clear hst5 hg5 c0)
          refine (l3Follow_calls g (kidAt g f 0) _ _ (HK.out.next HB5.out) ⟨defs, HG.out⟩ HKL.out).mono ?_
          rintro e w6 ⟨rfl, hb6⟩
          rw [follow_enough HG.out _ HKL.out]
          have HB6 : Hid (Below w.heap.size w w6) := HB5.out.trans (hb6.mono HB5.out.size)
          have HS6 : Hid (Stk w6 w.heap.size (ws ++ [f]) v') := HS5.out.keep fun k _ hk => hb6.block k hk
          clear hb6 c2 d0
          go_wp2_with fail
          go_roundg (g.length + 2 - (ws ++ [f]).length + 1)
          case measure => rw [List.length_append]; simp; omega
          case rel => exact ⟨ws ++ [f], kidAt g f 0, HS6.out, HR2.out, rfl, by omega, HB6.out⟩
      · have t1 : (g[f].op == 4) = false := by simp [ho]
        have h4 : ¬ opAt g f = 4 := by rw [opAt_at f hff]; exact ho
        clear hkk hb
        by_cases hgt : g.length < ws.length
        · have HV : Hid (spine g a = none) := HR.out.out hgt
          clear ho h4
          go_wp2_with fail
          go_ret2
          exact said_none HV.out (ws := []) (no_ints _ _ _ _ (by simp [maxLen])) (HB.out.alloc HB.out.size _)
        · have HV : Hid (spine g a = some (f, ws)) := HR.out.fin (by omega) HF.out h4
          clear ho h4
          go_wp2_with fail
          go_ret2
          exact said_some HV.out HS.out.row HB.out

theorem spV_no {g : List Ce} {a : Int} (h : ¬ (graphB g 6 = true ∧ 0 ≤ a ∧ a < g.length)) : spV g a = none := by unfold spV; rw [if_neg h]
theorem spV_yes {g : List Ce} {a : Int} (h : graphB g 6 = true ∧ 0 ≤ a ∧ a < g.length) : spV g a = spine g a.toNat := by unfold spV; rw [if_pos h]
theorem out_none {o : Option (Nat × List Nat)} {w w' : World} {ad : Option Addr} {cap : Nat} (h : o = none) (hc : cap ≤ maxLen) (hb : Below w.heap.size w w') : SpineOut o w (.returned (.tuple #[.int .i64 0, .slice ad 0 cap, .bool false])) w' := by
  subst h; exact ⟨_, rfl, no_ints _ _ _ _ hc, hb⟩
theorem out_some {o : Option (Nat × List Nat)} {w w' : World} {f : Nat} {ws : List Nat} {v : Value} (h : o = some (f, ws)) (hr : IntRow w' w.heap.size (plI ws) v) (hb : Below w.heap.size w w') : SpineOut o w (.returned (.tuple #[.int .i64 (f : Int), v, .bool true])) w' := by
  subst h; exact ⟨_, rfl, hr, hb⟩

end Go.Proofs.Ytglpehelmlehiaa
/-
  THE MODEL's l4Call.
-/
namespace Go.Proofs.Ytglpehelmlehiaa
set_option linter.unusedVariables false
set_option linter.unusedSimpArgs false
open Go.RowKit

/-- a graph and a code -/
def StG0 (r : List Ce × Nat) (w : World) (e : Ending) (w' : World) : Prop := ∃ v, e = .returned (.tuple #[v, .int .i64 (r.2 : Int)]) ∧ CIn w' r.1 v ∧ Below w.heap.size w w'
/-- .. the graph in new blocks if the step was made -/
def StG (r : List Ce × Nat) (w : World) (e : Ending) (w' : World) : Prop := ∃ v, e = .returned (.tuple #[v, .int .i64 (r.2 : Int)]) ∧ CellsOn w' (fun k => k < w'.heap.size ∧ (r.2 = 0 → w.heap.size ≤ k)) r.1 v ∧ Below w.heap.size w w'
theorem CellsOn.inW {w : World} {S : Nat → Prop} {g : List Ce} {v : Value} (h : CellsOn w (fun k => k < w.heap.size ∧ S k) g v) : CIn w g v := h.mono (fun _ h => h.1) (fun _ _ => rfl)
theorem CellsOn.newW {w w' : World} {P : Prop} {g : List Ce} {v : Value} (h : CellsOn w' (fun k => k < w'.heap.size ∧ w.heap.size ≤ k) g v) : CellsOn w' (fun k => k < w'.heap.size ∧ (P → w.heap.size ≤ k)) g v := h.mono (fun _ h => ⟨h.1, fun _ => h.2⟩) (fun _ _ => rfl)
theorem CellsOn.oldW {w w' : World} {P : Prop} {g : List Ce} {v : Value} (h : CIn w' g v) (hp : ¬ P) : CellsOn w' (fun k => k < w'.heap.size ∧ (P → w.heap.size ≤ k)) g v := CellsOn.mono h (fun _ h => ⟨h, fun hh => absurd hh hp⟩) (fun _ _ => rfl)
theorem CellsOn.backW {w w1 w' : World} {P : Prop} {g : List Ce} {v : Value} (h : CellsOn w' (fun k => k < w'.heap.size ∧ (P → w1.heap.size ≤ k)) g v) (hs : w.heap.size ≤ w1.heap.size) : CellsOn w' (fun k => k < w'.heap.size ∧ (P → w.heap.size ≤ k)) g v := h.mono (fun _ h => ⟨h.1, fun hh => Nat.le_trans hs (h.2 hh)⟩) (fun _ _ => rfl)
theorem below_grown2 {W w3 w4 : World} {S : Nat → Prop} {g : List Ce} {v : Value} (hb : Below W.heap.size W w3) (h : w3.grownBy w4 v.ownBlock) (ho : OwnC w3 W.heap.size S g v) : Below W.heap.size W w4 :=
  below_grown hb h fun k hk => by obtain ⟨ys, hy⟩ := ho.row; exact (hy.lt k hk).1
theorem own_cell {w : World} {base n cap b : Nat} {xs : List Value} (h : w.ownsRow base 48 3 (.slice (some ⟨b, 0, none⟩) n cap) n xs) (j : Nat) (hj : j < n * 3) : ∃ z, w.cell? ⟨b, j, none⟩ = some z :=
  ⟨_, (h.cellAt j hj).trans (List.getElem?_eq_getElem (by have := h.1; omega))⟩
theorem ind_i64 (k : Nat) : I64 (indTo k).op ∧ I64 (indTo k).num := by unfold I64 indTo; simp
theorem num_i64 {n : Int} (h0 : 0 ≤ n) (h1 : n ≤ 999) : I64 (numC n).op ∧ I64 (numC n).num := by unfold I64 numC; simp; omega
theorem args_snoc (g : List Ce) (xs : List Nat) (k : Nat) (hk : k < xs.length) : argsL g (xs.drop k) = argsL g (xs.drop (k + 1)) ++ [kidAt g xs[k] 1] := by
  unfold argsL
  rw [List.drop_eq_getElem_cons hk, List.map_cons, List.reverse_cons]

set_option maxRecDepth 100000 in
set_option maxHeartbeats 6400000 in
theorem l4Call_calls (ds : List Df) (g : List Ce) (at' f n : Nat) (xs : List Nat) (c v : Value) (w : World) (hd : DIn w ds c) (hk : CIn w g v) (hg : graphB g ds.length = true) (hp : progB ds = true) (ha : at' < g.length)
    (hs : spine g at' = some (f, xs)) (h3 : opAt g f = 3) (hn : numAt g f = (n : Int)) (hnl : n < ds.length) (hl : ds[n].1 = (xs.length : Int)) :
    Calls Try.prog 132 #[c, v, .int .i64 (at' : Int)] w (StG (callG ds g at') w) := by
  have HD : Hid (DIn w ds c) := hd
  have HK : Hid (CIn w g v) := hk
  have HG := mkHid hg
  have HP := mkHid hp
  have HS := mkHid hs
  have HCP := mkHid (call_parts hg hp ha hs hn hnl hl)
  have hok := spine_ok hg ha hs
  have hff : f < g.length := hok.1
  have HOK := mkHid hok
  have HN := mkHid hn
  obtain ⟨ad, cap, rfl, hlg, hm, -⟩ := hk
  obtain ⟨adp, capp, rfl, hlp, hmp, -⟩ := hd
  have h400 : g.length ≤ 400 := graphB_len hg
  have hx4 : xs.length ≤ 4 := HCP.out.2.2.2.2.1
  unfold maxLen at hm hmp
  clear hg hp hs hok hn hl
  go_enter Try.func132, Try.ntmps132
  go_wp2_with fail
  refine (l4Spine_calls g at' _ _ HK.out ⟨_, HG.out⟩ ha).mono ?_
  rintro e w1 ⟨xs', v1, hxs, rfl, hi1, hb1⟩
  obtain rfl : xs' = xs := hxs _ HS.out
  rw [HS.out]
  have e1 : spI (some (f, xs')) = (f : Int) := rfl
  rw [e1]
  have HB1 : Hid (Below w.heap.size w w1) := hb1
  have HI1 : Hid (IIn w1 (plI xs') v1) := hi1.inn
  obtain ⟨ad1, cap1, rfl, -, -, -⟩ := hi1
  rw [plI_length] at HI1 ⊢
  have HS0 : Hid (Stk (w1.alloc (.cells #[] 3)) w1.heap.size [] (.slice (some ⟨w1.heap.size, 0, none⟩) 0 0)) := ⟨rfl, Or.inr ⟨_, 0, _, rfl, Nat.le_refl _, Deep.blk_alloc_new _ _, Nat.le_refl _, by simp [maxLen], rfl, rfl⟩⟩
  clear hb1 hxs
  go_wp2_with fail
  go_loopw [10, 11] (fun av i wr => ∃ (k : Nat) (z : Int), k ≤ xs'.length ∧ z = (k : Int) - 1 ∧ i = .int .i64 z ∧ Stk wr w1.heap.size (argsL g (xs'.drop k)) av ∧ Below w1.heap.size w1 wr) (fun _ i _ => (intOf i + 1).toNat)
  case atStart => exact ⟨xs'.length, _, Nat.le_refl _, rfl, by simp, by simpa [argsL] using HS0.out, box_below _ _⟩
  case round =>
    obtain ⟨k, z, hk, hz, rfl, hst, hb⟩ := hrel
    have HST : Hid (Stk wr w1.heap.size (argsL g (xs'.drop k)) _) := hst
    have HB := mkHid hb
    have hll : (argsL g (xs'.drop k)).length ≤ 4 := by unfold argsL; simp; omega
    have HZ := mkHid hz
    obtain ⟨ada, capa, rfl⟩ := hst.len
    clear hst hb hz
    by_cases h0 : k = 0
    · subst h0
      have hz0 : z < 0 := by have := HZ.out; omega
      have HST2 : Hid (Stk wr w1.heap.size (argsL g xs') (.slice ada (argsL g xs').length capa)) := HST.out
      rw [List.drop_zero] at hll ⊢
      clear HST
      obtain ⟨blp, offp, rk, hep, -, p1w, p2w, p3w, -, io, iN, hkk⟩ := HD.out.at n hnl
      cases hep
      obtain ⟨blg, offg, rg, heg, -, g1w, -, -, -, -⟩ := HK.out.at f hff
      cases heg
      have hnum : g[f].num = (n : Int) := by rw [← numAt_at f hff]; exact HN.out
      rw [hnum] at g1w
      have HBR : Hid (Below w.heap.size w wr) := HB1.out.trans (HB.out.mono HB1.out.size)
      have HP1 := mkHid p1w
      have HP2 := mkHid p2w
      have HP3 := mkHid p3w
      have HG1 := mkHid g1w
      have q1 := (HBR.out.cell (p := ⟨blp, offp + n * 4 + 1, none⟩) (cell_lt p1w)).trans p1w
      have q2 := (HBR.out.cell (p := ⟨blp, offp + n * 4 + 2, none⟩) (cell_lt p2w)).trans p2w
      have q3 := (HBR.out.cell (p := ⟨blp, offp + n * 4 + 3, none⟩) (cell_lt p3w)).trans p3w
      have q4 := (HBR.out.cell (p := ⟨blg, offg + f * 3 + 1, none⟩) (cell_lt g1w)).trans g1w
      obtain ⟨adr, capr, rfl, -, -, -⟩ := id hkk
      have HKK := mkHid hkk
      have HIO := mkHid (And.intro io iN)
      clear p1w p2w p3w g1w hnum hkk io iN
      go_wp2_with fail
      go_region_held3 (fun w' => w'.cell? ⟨blp, offp + n * 4 + 1, none⟩ = some (.int .i64 ds[n].2.op) ∧ w'.cell? ⟨blp, offp + n * 4 + 2, none⟩ = some (.int .i64 ds[n].2.num) ∧ w'.cell? ⟨blp, offp + n * 4 + 3, none⟩ = some (.slice adr ds[n].2.kids.length capr) ∧ w'.cell? ⟨blg, offg + f * 3 + 1, none⟩ = some (.int .i64 (n : Int)))
        (first
          | go_keep
          | exact ⟨s1, s2, s3, s4⟩
          | exact ⟨r1, r2, r3, r4⟩
          | exact ⟨q1, q2, q3, q4⟩)
        (first
          | (go_at_call 102; refine (l3Copy_calls g _ wr.drew (HK.out.next (HBR.out.drew)) ⟨_, HG.out⟩).mono ?_; rintro en w3 ⟨gv, rfl, hog, hb3⟩; have HOG : Hid (OwnC w3 wr.heap.size (fun b => wr.heap.size ≤ b) g gv) := hog; have HB3 : Hid (Below wr.heap.size wr w3) := (Below.refl _ _).drew.trans hb3; have HBW3 : Hid (Below w.heap.size w w3) := HBR.out.trans (HB3.out.mono HBR.out.size); have r1 := (HBW3.out.cell (p := ⟨blp, offp + n * 4 + 1, none⟩) (cell_lt HP1.out)).trans HP1.out; have r2 := (HBW3.out.cell (p := ⟨blp, offp + n * 4 + 2, none⟩) (cell_lt HP2.out)).trans HP2.out; have r3 := (HBW3.out.cell (p := ⟨blp, offp + n * 4 + 3, none⟩) (cell_lt HP3.out)).trans HP3.out; have r4 := (HBW3.out.cell (p := ⟨blg, offg + f * 3 + 1, none⟩) (cell_lt HG1.out)).trans HG1.out; clear hog hb3)
          | (go_at_call 122; refine (ad_calls (argsL g xs') ds[n].2 gv (.slice ada (argsL g xs').length capa) (.slice adr ds[n].2.kids.length capr) wr.heap.size (fun b => wr.heap.size ≤ b) g w3 HOG.out HB3.out.size (HST2.out.row.inn.mono (fun _ h => h) (fun b hb => HB3.out.block b hb)) (HKK.out.mono (fun k hk => Nat.lt_of_lt_of_le hk HBR.out.size) (fun b hb => HBW3.out.block b hb)) (by have := HCP.out.2.2.2.1; omega) (by have := HCP.out.2.1; omega) HIO.out.1 HIO.out.2 (varOk_of_sh _ _ 16 _ HCP.out.2.2.1)).mono ?_; rintro en w4 ⟨gv', rfl, hog4, hg4, how4⟩; obtain ⟨ad5, cap5, rfl⟩ := hog4.form; have HO4 := mkHid hog4; have HB34 : Hid (Below wr.heap.size wr w4) := below_grown2 HB3.out hg4 HOG.out; have HBW4 : Hid (Below w.heap.size w w4) := HBR.out.trans (HB34.out.mono HBR.out.size); have s1 := (HBW4.out.cell (p := ⟨blp, offp + n * 4 + 1, none⟩) (cell_lt HP1.out)).trans HP1.out; have s2 := (HBW4.out.cell (p := ⟨blp, offp + n * 4 + 2, none⟩) (cell_lt HP2.out)).trans HP2.out; have s3 := (HBW4.out.cell (p := ⟨blp, offp + n * 4 + 3, none⟩) (cell_lt HP3.out)).trans HP3.out; have s4 := (HBW4.out.cell (p := ⟨blg, offg + f * 3 + 1, none⟩) (cell_lt HG1.out)).trans HG1.out; clear hog4 hg4 how4))
      have HSZ := mkHid (addT_size (argsL g xs') ds[n].2 g)
      clear s1 s2 s3 s4
      by_cases hle : (addT (argsL g xs') ds[n].2 g).1.length ≤ 400
      · have HV : Hid (callG ds g at' = ((addT (argsL g xs') ds[n].2 g).1.set at' (indTo (addT (argsL g xs') ds[n].2 g).2), 0)) := by
          unfold Hid callG; rw [HCP.out.1, if_pos hle]
        have hle2 : ¬ ((400 : Int) < ((addT (argsL g xs') ds[n].2 g).1.length : Int)) := by omega
        have hat : at' < (addT (argsL g xs') ds[n].2 g).1.length := by have := HSZ.out.1; omega
        clear hle
        generalize addT (argsL g xs') ds[n].2 g = R at *
        obtain ⟨ys, hys⟩ := HO4.out.row
        have hb5 : ∃ b5, ad5 = some ⟨b5, 0, none⟩ := by
          rcases hys.2 with ⟨-, h0⟩ | ⟨b5, c5, cur5, e5, -⟩
          · omega
          · simp only [Value.slice.injEq] at e5; exact ⟨b5, e5.1⟩
        obtain ⟨b5, rfl⟩ := hb5
        have hyl := hys.1
        have hys2 := World.ownsRow.alloc hys (.cells #[.int .i64 (R.2 : Int)] 3)
        obtain ⟨z0, y0⟩ := own_cell hys2 (at' * 3) (by omega)
        obtain ⟨z1, y1⟩ := own_cell hys2 (at' * 3 + 1) (by omega)
        obtain ⟨z2, y2⟩ := own_cell hys2 (at' * 3 + 2) (by omega)
        have f0 := hys2.frozenAt (at' * 3)
        have f1 := hys2.frozenAt (at' * 3 + 1)
        have f2 := hys2.frozenAt (at' * 3 + 2)
        have hatI : (at' : Int) < (R.1.length : Int) := by omega
        have hb5 : wr.heap.size ≤ b5 := (hys.lt b5 rfl).1
        have hbz : b5 < w4.heap.size := (hys.lt b5 rfl).2
        have hoa : OwnC (w4.alloc (.cells #[.int .i64 (R.2 : Int)] 3)) wr.heap.size (fun b => wr.heap.size ≤ b ∧ b < w4.heap.size) R.1 (.slice (some ⟨b5, 0, none⟩) R.1.length cap5) :=
          HO4.out.next (fun k hk hz => ⟨by rcases hk with h | h; exact h; exact Nat.le_trans HB3.out.size h, hz⟩) (fun k _ hz => Deep.blk_alloc_lt _ _ _ hz) (fun k _ hz => Deep.blk_alloc_lt _ _ _ hz)
        have hset := hoa.setc at' hat (c := indTo R.2) (kv := .slice (some ⟨w4.heap.size, 0, none⟩) 1 1) (blk := w4.heap.size) (ind_i64 R.2) (krow_one w4 R.2) (by rintro ⟨-, h⟩; omega)
        have HFIN := mkHid ((hset.own (fun k hk _ => by rcases hk with h | h; exact h.1; have := HB34.out.size; omega)).onS (S := fun k => k < (st3 (w4.alloc (.cells #[.int .i64 (R.2 : Int)] 3)) b5 at' 11 0 (.slice (some ⟨w4.heap.size, 0, none⟩) 1 1)).heap.size ∧ w.heap.size ≤ k) (fun k hk hz => ⟨hz, Nat.le_trans HBR.out.size (List.mem_range'_1.1 hk).1⟩))
        have HBF : Hid (Below w.heap.size w (st3 (w4.alloc (.cells #[.int .i64 (R.2 : Int)] 3)) b5 at' 11 0 (.slice (some ⟨w4.heap.size, 0, none⟩) 1 1))) := st3_below (HBW4.out.alloc HBW4.out.size _) (Nat.le_trans HBR.out.size hb5)
        clear hys hys2 hoa hset hb5 hbz
        go_wp2_with fail
        go_ret2
        rw [HV.out]
        exact ⟨_, rfl, HFIN.out.newW, HBF.out⟩
      · have HV : Hid (callG ds g at' = (g, 3)) := by
          unfold Hid callG; rw [HCP.out.1, if_neg hle]
        have hle2 : (400 : Int) < ((addT (argsL g xs') ds[n].2 g).1.length : Int) := by omega
        clear hle
        go_wp2_with fail
        go_ret2
        rw [HV.out]
        exact ⟨_, rfl, CellsOn.oldW (HK.out.next HBW4.out) (by simp), HBW4.out⟩
    · obtain ⟨m, rfl⟩ : ∃ m, k = m + 1 := ⟨k - 1, by omega⟩
      obtain rfl : z = (m : Int) := by have := HZ.out; omega
      have hml : m < xs'.length := by omega
      have hmx := HOK.out.2.2.2.1 xs'[m] (List.getElem_mem hml)
      obtain ⟨am, ham⟩ : ∃ am, am = xs'[m] := ⟨_, rfl⟩
      rw [← ham] at hmx
      obtain ⟨haml, hm4⟩ := hmx
      have hpm : m < (plI xs').length := by rw [plI_length]; exact hml
      obtain ⟨gb, go, rfl, q0w⟩ := HI1.out.at m hpm
      have hpe : (plI xs')[m] = (am : Int) := by rw [ham]; simp [plI]
      rw [hpe] at q0w
      have HQ := mkHid q0w
      obtain ⟨bl, off, r, rfl, c0w, c1w, c2w, -, -, hkk⟩ := (HK.out.next HB1.out).at am haml
      have hk1 : 1 < g[am].kids.length := by
        have h1 := kids_count HG.out am haml
        have h2 := opAt_at am haml
        rw [hm4] at h2
        rw [← h2] at h1
        have e : cArity 4 = 2 := by decide
        omega
      obtain ⟨hke, hkl⟩ := kidAt_get HG.out am haml 1 hk1
      obtain ⟨ad2, cap2, rfl, -, -, -⟩ := id hkk
      obtain ⟨bl2, off2, rfl, d1w⟩ := hkk.at 1 hk1
      rw [hke] at d1w
      obtain ⟨kv, hkv⟩ : ∃ kv, kv = kidAt g am 1 := ⟨_, rfl⟩
      rw [← hkv] at d1w
      have q0 := (HB.out.cell (p := ⟨gb, go + m, none⟩) (cell_lt q0w)).trans q0w
      have c2 := (HB.out.cell (p := ⟨bl, off + am * 3 + 2, none⟩) (cell_lt c2w)).trans c2w
      have d1 := (HB.out.cell (p := ⟨bl2, off2 + 1, none⟩) (cell_lt d1w)).trans d1w
      have HSN : Hid (argsL g (xs'.drop m) = argsL g (xs'.drop (m + 1)) ++ [kv]) := by rw [hkv, ham]; exact args_snoc g xs' m hml
      have HS3 : Hid (Stk (wr.alloc (.cells #[.int .i64 (kv : Int)] 3)) w1.heap.size (argsL g (xs'.drop (m + 1))) (.slice ada (argsL g (xs'.drop (m + 1))).length capa)) := HST.out.alloc _
      have HK3 : Hid (IIn (wr.alloc (.cells #[.int .i64 (kv : Int)] 3)) [(kv : Int)] (.slice (some ⟨wr.heap.size, 0, none⟩) 1 1)) := one_in wr kv
      have HLO : Hid (w1.heap.size ≤ (wr.alloc (.cells #[.int .i64 (kv : Int)] 3)).heap.size) := by rw [Hid, Deep.nblk_alloc]; have := HB.out.size; omega
      have HOB : Hid (∀ j, (Value.slice ada (argsL g (xs'.drop (m + 1))).length capa).ownBlock = some j → w1.heap.size ≤ j) := fun j hj => own_lo HST.out hj.symm
      clear hkk hke hkl c0w c1w c2w d1w q0w hpe hkv ham hm4 hpm
      go_wp2_with (at_builtin; go_must (refine wpList_push rfl _ _ rfl _ w1.heap.size (argsL g (xs'.drop (m + 1))) [kv] (.slice ada (argsL g (xs'.drop (m + 1))).length capa) (.slice (some ⟨wr.heap.size, 0, none⟩) 1 1) rfl HS3.out rfl HK3.out rfl HLO.out (by simp; omega) ?_); go_must (intro v' w5 hst5 hg5); go_must (have HS5 : Hid (Stk w5 w1.heap.size (argsL g (xs'.drop m)) v') := by rw [HSN.out]; exact hst5); go_must (have HB5 : Hid (Below w1.heap.size w1 w5) := by have hb3 : Below w1.heap.size w1 (wr.alloc (.cells #[.int .i64 (kv : Int)] 3)) := HB.out.alloc HB.out.size _; exact ⟨by rw [hg5.os]; exact hb3.os, by rw [hg5.tape]; exact hb3.tape, by rw [hg5.output]; exact hb3.output, Nat.le_trans hb3.size hg5.size, fun j hj => (hg5.block j (by have := hb3.size; omega) (fun e => by have := HOB.out j e.symm; omega)).trans (hb3.block j hj)⟩); clear hst5 hg5 q0 c2 d1)
      go_roundw
      case rel => first | exact ⟨m, (m : Int) - 1, by omega, rfl, rfl, HS5.out, HB5.out⟩ | ((repeat apply Exists.intro); exact ⟨⟨m, (m : Int) - 1, by omega, rfl, rfl, HS5.out, HB5.out⟩, rfl⟩)
      case measure => (simp [intOf] <;> omega)
end Go.Proofs.Ytglpehelmlehiaa
/-
  THE MODEL's l2Number AND l4Change.
-/
namespace Go.Proofs.Ytglpehelmlehiaa
set_option linter.unusedVariables false
set_option linter.unusedSimpArgs false
open Go.RowKit

set_option maxHeartbeats 800000 in
theorem l2Number_calls (op a b : Int) (ho : op = 8 ∨ op = 9) (ha : 0 ≤ a ∧ a ≤ 999) (hb : 0 ≤ b ∧ b ≤ 999) (w : World) :
    Calls Try.prog 133 #[.int .i64 op, .int .i64 a, .int .i64 b] w fun e w' => e = .returned (.int .i64 (numberOf op a b)) ∧ w = w' := by
  obtain ⟨a0, a1⟩ := ha
  obtain ⟨b0, b1⟩ := hb
  rcases ho with rfl | rfl
  · have HV : Hid (numberOf 8 a b = (a + b) % 1000) := rfl
    go_enter Try.func133, Try.ntmps133
    go_wp2_with fail
    go_ret
    exact ⟨ret_int (by rw [HV.out]), rfl⟩
  · have HV : Hid (numberOf 9 a b = (a + (1000 - b)) % 1000) := rfl
    have h0 : 0 ≤ 1000 - b := by omega
    have h1 : 1000 - b ≤ 1000 := by omega
    go_enter Try.func133, Try.ntmps133
    go_wp2_with fail
    go_ret
    exact ⟨ret_int (by rw [HV.out]), rfl⟩

/-- a graph with one cell overwritten, in memory -/
theorem set_fin {w w4 : World} {lo b5 cap5 : Nat} {S : Nat → Prop} {G : List Ce} {at' : Nat} {c : Ce} {kv : Value} {o : Obj} (h : OwnC w4 lo S G (.slice (some ⟨b5, 0, none⟩) G.length cap5)) (hS : ∀ k, S k → lo ≤ k) (hat : at' < G.length) (hlo : lo ≤ w4.heap.size) (hb : Below w.heap.size w w4) (hw : w.heap.size ≤ lo)
    (hc : I64 c.op ∧ I64 c.num) (hk : KRowS (w4.alloc o) (fun x => x = w4.heap.size) c.kids w4.heap.size kv) :
    CellsOn (st3 (w4.alloc o) b5 at' c.op c.num kv) (fun k => k < (st3 (w4.alloc o) b5 at' c.op c.num kv).heap.size ∧ w.heap.size ≤ k) (G.set at' c) (.slice (some ⟨b5, 0, none⟩) G.length cap5) ∧ Below w.heap.size w (st3 (w4.alloc o) b5 at' c.op c.num kv) := by
  obtain ⟨ys, hys⟩ := h.row
  have hb5 := (hys.lt b5 rfl)
  have hoa : OwnC (w4.alloc o) lo (fun b => lo ≤ b ∧ b < w4.heap.size) G (.slice (some ⟨b5, 0, none⟩) G.length cap5) :=
    h.next (fun k hk hz => ⟨hS k hk, hz⟩) (fun k _ hz => Deep.blk_alloc_lt _ _ _ hz) (fun k _ hz => Deep.blk_alloc_lt _ _ _ hz)
  have hset := hoa.setc at' hat (c := c) hc hk (by rintro ⟨-, h⟩; omega)
  exact ⟨(hset.own (fun k hk _ => by rcases hk with h | h; exact h.1; omega)).onS (fun k hk hz => ⟨hz, Nat.le_trans hw (List.mem_range'_1.1 hk).1⟩), st3_below (hb.alloc hb.size _) (Nat.le_trans hw hb5.1)⟩
/-- .. with a cell without operands, no block more -/
theorem set_fin0 {w w4 : World} {lo b5 cap5 : Nat} {S : Nat → Prop} {G : List Ce} {at' : Nat} {c : Ce} {kv : Value} (h : OwnC w4 lo S G (.slice (some ⟨b5, 0, none⟩) G.length cap5)) (hS : ∀ k, S k → lo ≤ k) (hat : at' < G.length) (hlo : lo ≤ w4.heap.size) (hb : Below w.heap.size w w4) (hw : w.heap.size ≤ lo)
    (hc : I64 c.op ∧ I64 c.num) (hk : KRowS w4 (fun x => x = w4.heap.size) c.kids w4.heap.size kv) :
    CellsOn (st3 w4 b5 at' c.op c.num kv) (fun k => k < (st3 w4 b5 at' c.op c.num kv).heap.size ∧ w.heap.size ≤ k) (G.set at' c) (.slice (some ⟨b5, 0, none⟩) G.length cap5) ∧ Below w.heap.size w (st3 w4 b5 at' c.op c.num kv) := by
  obtain ⟨ys, hys⟩ := h.row
  have hb5 := (hys.lt b5 rfl)
  have hoa : OwnC w4 lo (fun b => lo ≤ b ∧ b < w4.heap.size) G (.slice (some ⟨b5, 0, none⟩) G.length cap5) :=
    h.next (fun k hk hz => ⟨hS k hk, hz⟩) (fun k _ hz => rfl) (fun k _ hz => rfl)
  have hset := hoa.setc at' hat (c := c) hc hk (by rintro ⟨-, h⟩; omega)
  exact ⟨(hset.own (fun k hk _ => by rcases hk with h | h; exact h.1; omega)).onS (fun k hk hz => ⟨hz, Nat.le_trans hw (List.mem_range'_1.1 hk).1⟩), st3_below hb (Nat.le_trans hw hb5.1)⟩
theorem num_range {g : List Ce} {defs : Int} (h : graphB g defs = true) (f : Nat) (hf : f < g.length) (ho : g[f].op = 2) : 0 ≤ g[f].num ∧ g[f].num ≤ 999 := by
  have hc := graphB_cell h f hf
  unfold cellB fitsB ownB at hc
  simp only [ho, Bool.and_eq_true, decide_eq_true_eq] at hc
  simpa using hc.1.2
/-- the row of a graph that has a cell -/
theorem OwnC.blk {w : World} {lo : Nat} {S : Nat → Prop} {g : List Ce} {ad : Option Addr} {cap : Nat} (h : OwnC w lo S g (.slice ad g.length cap)) (h0 : 0 < g.length) : ∃ b, ad = some ⟨b, 0, none⟩ := by
  obtain ⟨ys, hys⟩ := h.row
  rcases hys.2 with ⟨-, hz⟩ | ⟨b5, c5, cur5, e5, -⟩
  · omega
  · simp only [Value.slice.injEq] at e5; exact ⟨b5, e5.1⟩

set_option maxRecDepth 100000 in
set_option maxHeartbeats 12800000 in
theorem l4Change_calls (ds : List Df) (g : List Ce) (at' : Nat) (c v : Value) (w : World) (hd : DIn w ds c) (hk : CIn w g v) (hg : graphB g ds.length = true) (hp : progB ds = true) (hr : Ready ds g at') :
    Calls Try.prog 126 #[c, v, .int .i64 (at' : Int)] w (StG (changeG ds g at') w) := by
  obtain ⟨ha, hr⟩ := hr
  have HD : Hid (DIn w ds c) := hd
  have HK : Hid (CIn w g v) := hk
  have HG := mkHid hg
  have HP := mkHid hp
  obtain ⟨ad, cap, rfl, hlg, hm, -⟩ := hk
  have h400 : g.length ≤ 400 := graphB_len hg
  have HOA : Hid (opAt g at' = g[at'].op) := opAt_at at' ha
  obtain ⟨bl, off, r, rfl, c0, c1, c2, -, -, hkk⟩ := HK.out.at at' ha
  obtain ⟨adk, capk, rfl, -, -, -⟩ := id hkk
  have HKK := mkHid hkk
  have HC0 := mkHid c0
  have HBX : Hid (Below w.heap.size w (w.alloc (.cells #[.int .i64 g[at'].op, .int .i64 g[at'].num, .slice adk g[at'].kids.length capk] 48))) := box_below _ _
  unfold maxLen at hm
  clear hg hp hkk
  rcases hr with hr | hr
  · obtain ⟨ho, f, l, n, hs, h3, hn, hnl, hl⟩ := hr
    have HV : Hid (changeG ds g at' = callG ds g at') := by unfold Hid changeG; rw [if_pos ho]
    have HCALL : Hid (∀ W : World, Below w.heap.size w W → Calls Try.prog 132 #[c, .slice (some ⟨bl, off, none⟩) g.length cap, .int .i64 (at' : Int)] W (StG (callG ds g at') W)) := fun W hW => l4Call_calls ds g at' f n l c _ W (HD.out.next hW) (HK.out.next hW) HG.out HP.out ha hs h3 hn hnl hl
    rw [HOA.out] at ho
    clear hs h3 hn hl hnl
    go_enter Try.func126, Try.ntmps126
    rcases ho with ho | ho
    · have t4 : (g[at'].op == 4) = false := by simp [ho]
      have t3 : (g[at'].op == 3) = true := by simp [ho]
      clear ho
      go_wp2_with fail
      refine (HCALL.out _ HBX.out).mono ?_
      rintro e w1 ⟨v1, rfl, hi1, hb1⟩
      have HI := mkHid (hi1.backW HBX.out.size)
      have HB1 : Hid (Below w.heap.size w w1) := HBX.out.trans (hb1.mono HBX.out.size)
      obtain ⟨ad1, cap1, rfl, -, -, -⟩ := hi1
      clear hb1
      go_wp2_with fail
      go_ret2
      rw [HV.out]
      exact ⟨_, rfl, HI.out, HB1.out⟩
    · have t4 : (g[at'].op == 4) = true := by simp [ho]
      clear ho
      go_wp2_with fail
      refine (HCALL.out _ HBX.out).mono ?_
      rintro e w1 ⟨v1, rfl, hi1, hb1⟩
      have HI := mkHid (hi1.backW HBX.out.size)
      have HB1 : Hid (Below w.heap.size w w1) := HBX.out.trans (hb1.mono HBX.out.size)
      obtain ⟨ad1, cap1, rfl, -, -, -⟩ := hi1
      clear hb1
      go_wp2_with fail
      go_ret2
      rw [HV.out]
      exact ⟨_, rfl, HI.out, HB1.out⟩
  · have hno := ready_op (ds := ds) hr
    have HV : Hid (changeG ds g at' = (g.set at' (opCell g at'), 0)) := by unfold Hid changeG; rw [if_neg hno]
    have hr0 := hr
    have HR := mkHid hr0
    rw [HOA.out] at hno
    have t4 : (g[at'].op == 4) = false := by simp; omega
    have t3 : (g[at'].op == 3) = false := by simp; omega
    -- the first operand
    obtain ⟨b0, hb0, hk0⟩ : ∃ b0, followN g g.length (kidAt g at' 0) = some b0 ∧ 0 < g[at'].kids.length := by
      have h1 := kids_op HG.out at' ha
      rcases hr with ⟨h67, b, hb, hb5⟩ | ⟨h10, b, hb, hb2⟩ | ⟨h89, ⟨b, hb, hb2⟩, -⟩
      · refine ⟨b, hb, ?_⟩
        rcases h67 with h | h <;> rw [h] at h1 <;> have e : cArity 6 = 1 ∧ cArity 7 = 1 := by decide
        all_goals omega
      · refine ⟨b, hb, ?_⟩
        rw [h10] at h1; have e : cArity 10 = 3 := by decide
        omega
      · refine ⟨b, hb, ?_⟩
        rcases h89 with h | h <;> rw [h] at h1 <;> have e : cArity 8 = 2 ∧ cArity 9 = 2 := by decide
        all_goals omega
    have HB0 := mkHid hb0
    obtain ⟨hke, hkl⟩ := kidAt_get HG.out at' ha 0 hk0
    have HKL := mkHid hkl
    have HKE := mkHid hke
    have hbl0 := (followN_lt HG.out _ _ _ hkl hb0).1
    clear hr hr0 hno hb0 hke hkl
    go_enter Try.func126, Try.ntmps126
    -- the cell is copied
    go_wp2_with fail
    refine (l3Copy_calls g _ _ (HK.out.next HBX.out) ⟨_, HG.out⟩).mono ?_
    rintro e w2 ⟨gv, rfl, hog, hb2⟩
    obtain ⟨ad2, cap2, rfl⟩ := hog.form
    obtain ⟨b5, rfl⟩ := hog.blk (by omega)
    have hlo : (w.alloc (.cells #[.int .i64 g[at'].op, .int .i64 g[at'].num, .slice adk g[at'].kids.length capk] 48)).heap.size = w.heap.size + 1 := Deep.nblk_alloc _ _
    rw [hlo] at hog
    have HOG := mkHid hog
    have HB2 : Hid (Below w.heap.size w w2) := HBX.out.trans (hb2.mono (by rw [hlo]; omega))
    have HX2 : Hid (w2.heap[w.heap.size]? = some (.cells #[.int .i64 g[at'].op, .int .i64 g[at'].num, .slice adk g[at'].kids.length capk] 48)) := (hb2.block _ (by rw [hlo]; omega)).trans (Deep.blk_alloc_new _ _)
    have HS2 : Hid (w.heap.size + 1 ≤ w2.heap.size) := by have := hb2.size; rw [hlo] at this; exact this
    have x0 := cell_of_blk HX2.out 0 _ rfl
    have x2 := cell_of_blk HX2.out 2 _ rfl
    obtain ⟨blk, offk, rfl, d0w⟩ := HKK.out.at 0 hk0
    rw [HKE.out] at d0w
    have d0 := (HB2.out.cell (p := ⟨blk, offk + 0, none⟩) (cell_lt d0w)).trans d0w
    rw [Nat.add_zero] at d0
    clear hog hb2 hlo d0w c0 c1 c2
    go_wp2_with fail
    refine (l3Follow_calls g (kidAt g at' 0) _ w2 (HK.out.next HB2.out) ⟨_, HG.out⟩ HKL.out).mono ?_
    rintro e w3 ⟨rfl, hb3⟩
    rw [follow_enough HG.out _ HKL.out, HB0.out]
    have e2 : folI (some b0) = (b0 : Int) := rfl
    rw [e2]
    have HB3 : Hid (Below w.heap.size w w3) := HB2.out.trans (hb3.mono HB2.out.size)
    have HX3 : Hid (w3.heap[w.heap.size]? = some (.cells #[.int .i64 g[at'].op, .int .i64 g[at'].num, .slice (some ⟨blk, offk, none⟩) g[at'].kids.length capk] 48)) := (hb3.block _ (by have := HS2.out; omega)).trans HX2.out
    have HS3 : Hid (w.heap.size + 1 ≤ w3.heap.size) := Nat.le_trans HS2.out hb3.size
    have HO3 : Hid (OwnC w3 (w.heap.size + 1) (fun b => w.heap.size + 1 ≤ b) g (.slice (some ⟨b5, 0, none⟩) g.length cap2)) := HOG.out.next (fun _ h _ => h) (fun k _ hz => hb3.block k hz) (fun k _ hz => hb3.block k hz)
    obtain ⟨bl3, off3, r0, he3, g0, g1, g2, -, -, hkk0⟩ := (HK.out.next HB3.out).at b0 hbl0
    cases he3
    obtain ⟨ad0, cap0, rfl, -, -, -⟩ := id hkk0
    have HKK0 := mkHid hkk0
    clear hb3 x0 x2 d0 hkk0
    obtain ⟨w4, hw4⟩ : ∃ w4 : World, w4 = w3.alloc (.cells #[.int .i64 g[b0].op, .int .i64 g[b0].num, .slice ad0 g[b0].kids.length cap0] 48) := ⟨_, rfl⟩
    have HW4 := mkHid hw4
    have hb34 : Below w3.heap.size w3 w4 := by rw [hw4]; exact box_below _ _
    have HB34 := mkHid hb34
    have HB4 : Hid (Below w.heap.size w w4) := HB3.out.trans (hb34.mono HB3.out.size)
    have HX4 : Hid (w4.heap[w.heap.size]? = some (.cells #[.int .i64 g[at'].op, .int .i64 g[at'].num, .slice (some ⟨blk, offk, none⟩) g[at'].kids.length capk] 48)) := (hb34.block _ (by have := HS3.out; omega)).trans HX3.out
    have HF4 : Hid (w4.heap[w3.heap.size]? = some (.cells #[.int .i64 g[b0].op, .int .i64 g[b0].num, .slice ad0 g[b0].kids.length cap0] 48)) := by rw [hw4]; exact Deep.blk_alloc_new _ _
    have HO4 : Hid (OwnC w4 (w.heap.size + 1) (fun b => w.heap.size + 1 ≤ b) g (.slice (some ⟨b5, 0, none⟩) g.length cap2)) := HO3.out.next (fun _ h _ => h) (fun k _ hz => hb34.block k hz) (fun k _ hz => hb34.block k hz)
    have HS4 : Hid (w.heap.size + 1 ≤ w4.heap.size) := Nat.le_trans HS3.out hb34.size
    have x0 := old_cell (cell_of_blk HX3.out 0 _ rfl) (.cells #[.int .i64 g[b0].op, .int .i64 g[b0].num, .slice ad0 g[b0].kids.length cap0] 48)
    have x2 := old_cell (cell_of_blk HX3.out 2 _ rfl) (.cells #[.int .i64 g[b0].op, .int .i64 g[b0].num, .slice ad0 g[b0].kids.length cap0] 48)
    rw [← hw4] at x0 x2
    have z1 := cell_of_blk HF4.out 1 _ rfl
    have z2 := cell_of_blk HF4.out 2 _ rfl
    have hatI : (at' : Int) < (g.length : Int) := by omega
    have HOB : Hid (opAt g b0 = g[b0].op) := opAt_at b0 hbl0
    clear hw4 hb34
    obtain ⟨ys, hys⟩ := HO4.out.row
    have HYS := mkHid hys
    clear hys
    rcases HR.out with ⟨h67, b, hb, hb5⟩ | ⟨h10, b, hb, hb2⟩ | ⟨h89, -, b1, hb1, hb12⟩
    · obtain rfl : b0 = b := Option.some.inj (HB0.out.symm.trans hb)
      have hk2 : g[b0].kids.length = 2 := by
        have h1 := kids_op HG.out b0 hbl0
        rw [hb5] at h1
        have e : cArity 5 = 2 := by decide
        omega
      rcases h67 with h6 | h7
      · obtain ⟨hke0, -⟩ := kidAt_get HG.out b0 hbl0 0 (by omega)
        have HVC : Hid (opCell g at' = indTo (kidAt g b0 0)) := by
          unfold Hid opCell; rw [if_pos h6, folAt_some HB0.out]
        obtain ⟨bk0, ok0, rfl, dkw⟩ := HKK0.out.at 0 (by omega)
        rw [hke0] at dkw
        have dk := (HB34.out.cell (p := ⟨bk0, ok0 + 0, none⟩) (cell_lt dkw)).trans dkw
        rw [Nat.add_zero] at dk
        have hkl2 : 1 < g[b0].kids.length := by omega
        obtain ⟨kv, hkv⟩ : ∃ kv, kv = kidAt g b0 0 := ⟨_, rfl⟩
        rw [← hkv] at HVC dk
        have hys2 := World.ownsRow.alloc HYS.out (.cells #[.int .i64 (kv : Int)] 3)
        obtain ⟨q0, y0⟩ := own_cell hys2 (at' * 3) (by omega)
        have f0 := hys2.frozenAt (at' * 3)
        obtain ⟨q1, y1⟩ := own_cell hys2 (at' * 3 + 1) (by omega)
        have f1 := hys2.frozenAt (at' * 3 + 1)
        obtain ⟨q2, y2⟩ := own_cell hys2 (at' * 3 + 2) (by omega)
        have f2 := hys2.frozenAt (at' * 3 + 2)
        have HFIN := mkHid (set_fin (o := .cells #[.int .i64 (kv : Int)] 3) (c := indTo kv) (kv := .slice (some ⟨w4.heap.size, 0, none⟩) 1 1) (at' := at') HO4.out (fun _ h => h) ha HS4.out HB4.out (Nat.le_succ _) (ind_i64 kv) (krow_one w4 kv))
        have hz4 : w4.heap.size = w3.heap.size + 1 := by rw [HW4.out]; exact Deep.nblk_alloc _ _
        rw [hz4] at HFIN
        clear hys2 hkv hz4
        rw [HOA.out] at h6
        have t6 : (g[at'].op == 6) = true := by simp [h6]
        clear h6 hb hb5 hke0 dkw hk2
        have hw4 := HW4.out
        clear HW4
        subst hw4
        go_wp2_with fail
        go_ret2
        rw [HV.out, HVC.out]
        exact ⟨_, rfl, HFIN.out.1.newW, HFIN.out.2⟩
      · obtain ⟨hke0, -⟩ := kidAt_get HG.out b0 hbl0 1 (by omega)
        have HVC : Hid (opCell g at' = indTo (kidAt g b0 1)) := by
          unfold Hid opCell; rw [if_neg (by omega), if_pos h7, folAt_some HB0.out]
        obtain ⟨bk0, ok0, rfl, dkw⟩ := HKK0.out.at 1 (by omega)
        rw [hke0] at dkw
        have dk := (HB34.out.cell (p := ⟨bk0, ok0 + 1, none⟩) (cell_lt dkw)).trans dkw
        have hkl2 : 1 < g[b0].kids.length := by omega
        obtain ⟨kv, hkv⟩ : ∃ kv, kv = kidAt g b0 1 := ⟨_, rfl⟩
        rw [← hkv] at HVC dk
        have hys2 := World.ownsRow.alloc HYS.out (.cells #[.int .i64 (kv : Int)] 3)
        obtain ⟨q0, y0⟩ := own_cell hys2 (at' * 3) (by omega)
        have f0 := hys2.frozenAt (at' * 3)
        obtain ⟨q1, y1⟩ := own_cell hys2 (at' * 3 + 1) (by omega)
        have f1 := hys2.frozenAt (at' * 3 + 1)
        obtain ⟨q2, y2⟩ := own_cell hys2 (at' * 3 + 2) (by omega)
        have f2 := hys2.frozenAt (at' * 3 + 2)
        have HFIN := mkHid (set_fin (o := .cells #[.int .i64 (kv : Int)] 3) (c := indTo kv) (kv := .slice (some ⟨w4.heap.size, 0, none⟩) 1 1) (at' := at') HO4.out (fun _ h => h) ha HS4.out HB4.out (Nat.le_succ _) (ind_i64 kv) (krow_one w4 kv))
        have hz4 : w4.heap.size = w3.heap.size + 1 := by rw [HW4.out]; exact Deep.nblk_alloc _ _
        rw [hz4] at HFIN
        clear hys2 hkv hz4
        rw [HOA.out] at h7
        have t6 : (g[at'].op == 6) = false := by simp [h7]
        have t7 : (g[at'].op == 7) = true := by simp [h7]
        clear h7 hb hb5 hke0 dkw hk2
        have hw4 := HW4.out
        clear HW4
        subst hw4
        go_wp2_with fail
        go_ret2
        rw [HV.out, HVC.out]
        exact ⟨_, rfl, HFIN.out.1.newW, HFIN.out.2⟩
    · obtain rfl : b0 = b := Option.some.inj (HB0.out.symm.trans hb)
      have hk3 : g[at'].kids.length = 3 := by
        have h1 := kids_op HG.out at' ha
        rw [h10] at h1
        have e : cArity 10 = 3 := by decide
        omega
      have HNB : Hid (numAt g b0 = g[b0].num) := numAt_at b0 hbl0
      by_cases hz : g[b0].num = 0
      · obtain ⟨hke0, -⟩ := kidAt_get HG.out at' ha 1 (by omega)
        have HVC : Hid (opCell g at' = indTo (kidAt g at' 1)) := by
          unfold Hid opCell; rw [if_neg (by omega), if_neg (by omega), if_pos h10, folAt_some HB0.out, HNB.out, if_pos hz]
        obtain ⟨bk0, ok0, hek, dkw⟩ := HKK.out.at 1 (by omega)
        cases hek
        rw [hke0] at dkw
        have dk := (HB4.out.cell (p := ⟨blk, offk + 1, none⟩) (cell_lt dkw)).trans dkw
        have hkl2 : 2 < g[at'].kids.length := by omega
        obtain ⟨kv, hkv⟩ : ∃ kv, kv = kidAt g at' 1 := ⟨_, rfl⟩
        rw [← hkv] at HVC dk
        have hys2 := World.ownsRow.alloc HYS.out (.cells #[.int .i64 (kv : Int)] 3)
        obtain ⟨q0, y0⟩ := own_cell hys2 (at' * 3) (by omega)
        have f0 := hys2.frozenAt (at' * 3)
        obtain ⟨q1, y1⟩ := own_cell hys2 (at' * 3 + 1) (by omega)
        have f1 := hys2.frozenAt (at' * 3 + 1)
        obtain ⟨q2, y2⟩ := own_cell hys2 (at' * 3 + 2) (by omega)
        have f2 := hys2.frozenAt (at' * 3 + 2)
        have HFIN := mkHid (set_fin (o := .cells #[.int .i64 (kv : Int)] 3) (c := indTo kv) (kv := .slice (some ⟨w4.heap.size, 0, none⟩) 1 1) (at' := at') HO4.out (fun _ h => h) ha HS4.out HB4.out (Nat.le_succ _) (ind_i64 kv) (krow_one w4 kv))
        have hz4 : w4.heap.size = w3.heap.size + 1 := by rw [HW4.out]; exact Deep.nblk_alloc _ _
        rw [hz4] at HFIN
        clear hys2 hkv hz4
        rw [HOA.out] at h10
        have t6 : (g[at'].op == 6) = false := by simp [h10]
        have t7 : (g[at'].op == 7) = false := by simp [h10]
        have t10 : (g[at'].op == 10) = true := by simp [h10]
        have tz : (g[b0].num == 0) = true := by simp [hz]
        clear h10 hb hb2 hke0 dkw hz hk3
        have hw4 := HW4.out
        clear HW4
        subst hw4
        go_wp2_with fail
        go_ret2
        rw [HV.out, HVC.out]
        exact ⟨_, rfl, HFIN.out.1.newW, HFIN.out.2⟩
      · obtain ⟨hke0, -⟩ := kidAt_get HG.out at' ha 2 (by omega)
        have HVC : Hid (opCell g at' = indTo (kidAt g at' 2)) := by
          unfold Hid opCell; rw [if_neg (by omega), if_neg (by omega), if_pos h10, folAt_some HB0.out, HNB.out, if_neg hz]
        obtain ⟨bk0, ok0, hek, dkw⟩ := HKK.out.at 2 (by omega)
        cases hek
        rw [hke0] at dkw
        have dk := (HB4.out.cell (p := ⟨blk, offk + 2, none⟩) (cell_lt dkw)).trans dkw
        have hkl2 : 2 < g[at'].kids.length := by omega
        obtain ⟨kv, hkv⟩ : ∃ kv, kv = kidAt g at' 2 := ⟨_, rfl⟩
        rw [← hkv] at HVC dk
        have hys2 := World.ownsRow.alloc HYS.out (.cells #[.int .i64 (kv : Int)] 3)
        obtain ⟨q0, y0⟩ := own_cell hys2 (at' * 3) (by omega)
        have f0 := hys2.frozenAt (at' * 3)
        obtain ⟨q1, y1⟩ := own_cell hys2 (at' * 3 + 1) (by omega)
        have f1 := hys2.frozenAt (at' * 3 + 1)
        obtain ⟨q2, y2⟩ := own_cell hys2 (at' * 3 + 2) (by omega)
        have f2 := hys2.frozenAt (at' * 3 + 2)
        have HFIN := mkHid (set_fin (o := .cells #[.int .i64 (kv : Int)] 3) (c := indTo kv) (kv := .slice (some ⟨w4.heap.size, 0, none⟩) 1 1) (at' := at') HO4.out (fun _ h => h) ha HS4.out HB4.out (Nat.le_succ _) (ind_i64 kv) (krow_one w4 kv))
        have hz4 : w4.heap.size = w3.heap.size + 1 := by rw [HW4.out]; exact Deep.nblk_alloc _ _
        rw [hz4] at HFIN
        clear hys2 hkv hz4
        rw [HOA.out] at h10
        have t6 : (g[at'].op == 6) = false := by simp [h10]
        have t7 : (g[at'].op == 7) = false := by simp [h10]
        have t10 : (g[at'].op == 10) = true := by simp [h10]
        have tz : (g[b0].num == 0) = false := by simp [hz]
        clear h10 hb hb2 hke0 dkw hz hk3
        have hw4 := HW4.out
        clear HW4
        subst hw4
        go_wp2_with fail
        go_ret2
        rw [HV.out, HVC.out]
        exact ⟨_, rfl, HFIN.out.1.newW, HFIN.out.2⟩
    · obtain ⟨b, hb, hb2⟩ : ∃ b, followN g g.length (kidAt g at' 0) = some b ∧ opAt g b = 2 := by
        rcases HR.out with ⟨h, -⟩ | ⟨h, -⟩ | ⟨-, h, -⟩
        · omega
        · omega
        · exact h
      obtain rfl : b0 = b := Option.some.inj (HB0.out.symm.trans hb)
      have hk1 : 1 < g[at'].kids.length := by
        have h1 := kids_op HG.out at' ha
        rcases h89 with h | h <;> rw [h] at h1 <;> have e : cArity 8 = 2 ∧ cArity 9 = 2 := by decide
        all_goals omega
      obtain ⟨hke1, hkl1⟩ := kidAt_get HG.out at' ha 1 hk1
      have hbl1 := (followN_lt HG.out _ _ _ hkl1 hb1).1
      have HKL1 := mkHid hkl1
      have HBF1 := mkHid hb1
      have HR0 := mkHid (num_range HG.out b0 hbl0 (by rw [← HOB.out]; exact hb2))
      have HR1 := mkHid (num_range HG.out b1 hbl1 (by rw [← opAt_at b1 hbl1]; exact hb12))
      obtain ⟨nv, hnv⟩ : ∃ nv, nv = numberOf g[at'].op g[b0].num g[b1].num := ⟨_, rfl⟩
      have HVC : Hid (opCell g at' = numC nv) := by
        unfold Hid opCell
        rw [if_neg (by omega), if_neg (by omega), if_neg (by omega), folAt_some HB0.out, folAt_some hb1, numAt_at b0 hbl0, numAt_at b1 hbl1, HOA.out, hnv]
      have HNR : Hid (0 ≤ nv ∧ nv ≤ 999) := by rw [hnv]; exact numberOf_range _ _ _
      have HCN : Hid (∀ W : World, Calls Try.prog 133 #[.int .i64 g[at'].op, .int .i64 g[b0].num, .int .i64 g[b1].num] W fun e w' => e = .returned (.int .i64 nv) ∧ W = w') := fun W => by
        rw [hnv]; exact l2Number_calls _ _ _ (by rw [← HOA.out]; exact h89) HR0.out HR1.out W
      obtain ⟨bk1, ok1, hek, dkw⟩ := HKK.out.at 1 hk1
      cases hek
      rw [hke1] at dkw
      have dk := (HB4.out.cell (p := ⟨blk, offk + 1, none⟩) (cell_lt dkw)).trans dkw
      have HDK := mkHid dkw
      rw [HOA.out] at h89
      have t6 : (g[at'].op == 6) = false := by simp; omega
      have t7 : (g[at'].op == 7) = false := by simp; omega
      have t10 : (g[at'].op == 10) = false := by simp; omega
      have hw4 := HW4.out
      clear HW4 hb hb2 hb1 hb12 hnv hke1 hkl1 dkw h89
      subst hw4
      go_wp2_with fail
      refine (l3Follow_calls g (kidAt g at' 1) _ _ (HK.out.next HB4.out) ⟨_, HG.out⟩ HKL1.out).mono ?_
      rintro e w5 ⟨rfl, hb5⟩
      rw [follow_enough HG.out _ HKL1.out, HBF1.out]
      have e3 : folI (some b1) = (b1 : Int) := rfl
      rw [e3]
      have HB5 : Hid (Below w.heap.size w w5) := HB4.out.trans (hb5.mono HB4.out.size)
      have hz4 : (w3.alloc (.cells #[.int .i64 g[b0].op, .int .i64 g[b0].num, .slice ad0 g[b0].kids.length cap0] 48)).heap.size = w3.heap.size + 1 := Deep.nblk_alloc _ _
      have HX5 := mkHid ((hb5.block _ (by have := HS4.out; omega)).trans HX4.out)
      have HF5 := mkHid ((hb5.block _ (by rw [hz4]; omega)).trans HF4.out)
      have HO5 : Hid (OwnC w5 (w.heap.size + 1) (fun b => w.heap.size + 1 ≤ b) g (.slice (some ⟨b5, 0, none⟩) g.length cap2)) := HO4.out.next (fun _ h _ => h) (fun k _ hz => hb5.block k hz) (fun k _ hz => hb5.block k hz)
      have HS5 : Hid (w.heap.size + 1 ≤ w5.heap.size) := Nat.le_trans HS4.out hb5.size
      obtain ⟨bl6, off6, r1, he6, g10, g11, g12, -, -, hkk1⟩ := (HK.out.next HB5.out).at b1 hbl1
      cases he6
      obtain ⟨ad1, cap1, rfl, -, -, -⟩ := id hkk1
      clear hb5 hkk1 x0 x2 z1 z2 dk
      have x0 := old_cell (cell_of_blk HX5.out 0 _ rfl) (.cells #[.int .i64 g[b1].op, .int .i64 g[b1].num, .slice ad1 g[b1].kids.length cap1] 48)
      have z1 := old_cell (cell_of_blk HF5.out 1 _ rfl) (.cells #[.int .i64 g[b1].op, .int .i64 g[b1].num, .slice ad1 g[b1].kids.length cap1] 48)
      have s1 := box_cell w5 #[.int .i64 g[b1].op, .int .i64 g[b1].num, .slice ad1 g[b1].kids.length cap1] 48 1 _ rfl
      obtain ⟨ys5, hys5⟩ := HO5.out.row
      have hys2 := World.ownsRow.alloc hys5 (.cells #[.int .i64 g[b1].op, .int .i64 g[b1].num, .slice ad1 g[b1].kids.length cap1] 48)
      obtain ⟨q0, y0⟩ := own_cell hys2 (at' * 3) (by omega)
      obtain ⟨q1, y1⟩ := own_cell hys2 (at' * 3 + 1) (by omega)
      obtain ⟨q2, y2⟩ := own_cell hys2 (at' * 3 + 2) (by omega)
      have f0 := hys2.frozenAt (at' * 3)
      have f1 := hys2.frozenAt (at' * 3 + 1)
      have f2 := hys2.frozenAt (at' * 3 + 2)
      have HFIN := mkHid (set_fin (o := .cells #[.int .i64 g[b1].op, .int .i64 g[b1].num, .slice ad1 g[b1].kids.length cap1] 48) (c := numC nv) (kv := .slice none 0 0) (at' := at') HO5.out (fun _ h => h) ha HS5.out HB5.out (Nat.le_succ _) (num_i64 HNR.out.1 HNR.out.2) (krow_nil _ _ _))
      clear hys5 hys2 hz4
      go_wp2_with fail
      refine (HCN.out _).mono ?_
      rintro e w7 ⟨rfl, rfl⟩
      go_wp2_with fail
      go_ret2
      rw [HV.out, HVC.out]
      exact ⟨_, rfl, HFIN.out.1.newW, HFIN.out.2⟩
end Go.Proofs.Ytglpehelmlehiaa
/-
  THE MODEL's l4Right AND l4Value.
-/
namespace Go.Proofs.Ytglpehelmlehiaa
set_option linter.unusedVariables false
set_option linter.unusedSimpArgs false
open Go.RowKit

theorem dec_len {α : Type} (xs : List α) : ((xs.length : Int) == 0) = decide (xs.length = 0) := by
  cases xs with
  | nil => rfl
  | cons x xs => simp only [List.length_cons]; rw [decide_eq_false (by omega)]; exact beq_eq_false_iff_ne.2 (by omega)

set_option maxRecDepth 100000 in
set_option maxHeartbeats 1600000 in
theorem l4Value_calls (ds : List Df) (g : List Ce) (a : Nat) (c v : Value) (w : World) (hd : DIn w ds c) (hk : CIn w g v) (hg : graphB g ds.length = true) (ha : a < g.length) :
    Calls Try.prog 54 #[c, v, .int .i64 (a : Int)] w fun e w' => e = .returned (.bool (valB (arsOf ds) g a)) ∧ Below w.heap.size w w' := by
  have HD : Hid (DIn w ds c) := hd
  have HK : Hid (CIn w g v) := hk
  have HG : Hid (graphB g ds.length = true) := hg
  obtain ⟨ad, cap, rfl, hl, hm, -⟩ := hk
  obtain ⟨adp, capp, rfl, hlp, hmp, -⟩ := hd
  have h400 : g.length ≤ 400 := graphB_len hg
  unfold maxLen at hm hmp
  clear hg
  go_enter Try.func54, Try.ntmps54
  go_wp2_with fail
  refine (l4Spine_calls g a _ _ HK.out ⟨_, HG.out⟩ ha).mono ?_
  rintro e w1 ⟨xs, v1, hxs, rfl, hi1, hb1⟩
  have HB1 : Hid (Below w.heap.size w w1) := hb1
  have HXS : Hid (∀ x, spine g a = some x → xs = x.2) := hxs
  have hlx : xs.length ≤ 9223372036854775807 := by
    obtain ⟨ad2, cap2, rfl, l1, l2, -⟩ := hi1
    rw [plI_length] at l1
    unfold maxLen at l2
    omega
  obtain ⟨ad2, cap2, rfl, -, -, -⟩ := hi1
  rw [plI_length]
  clear hb1 hxs
  cases hs : spine g a with
  | none =>
    have HV : Hid (valB (arsOf ds) g a = false) := valB_none hs
    have e1 : spI none = -1 := rfl
    rw [e1]
    clear hs
    go_wp2_with fail
    go_ret
    exact ⟨ret_bool HV.out.symm, HB1.out⟩
  | some x =>
    obtain ⟨f, ws⟩ := x
    obtain rfl : xs = ws := HXS.out _ hs
    have hok := spine_ok HG.out ha hs
    have hff : f < g.length := hok.1
    have HS : Hid (spine g a = some (f, xs)) := hs
    have e1 : spI (some (f, xs)) = (f : Int) := rfl
    rw [e1]
    obtain ⟨bl, off, r, rfl, c0, c1, c2, -, -, -⟩ := (HK.out.next HB1.out).at f hff
    have HOP : Hid (opAt g f = g[f].op) := opAt_at f hff
    have hbn : ¬ ((f : Int) < 0) := by omega
    clear hs hok c2
    by_cases ho2 : g[f].op = 2
    · have HV : Hid (valB (arsOf ds) g a = decide (xs.length = 0)) := valB_num HS.out (Or.inl (by rw [HOP.out]; exact ho2))
      have t2 : (g[f].op == 2) = true := by simp [ho2]
      clear ho2
      go_wp2_with fail
      go_ret
      exact ⟨ret_bool (by rw [HV.out]; exact dec_len xs), HB1.out⟩
    have t2 : (g[f].op == 2) = false := by simp [ho2]
    by_cases ho5 : g[f].op = 5
    · have HV : Hid (valB (arsOf ds) g a = decide (xs.length = 0)) := valB_num HS.out (Or.inr (by rw [HOP.out]; exact ho5))
      have t5 : (g[f].op == 5) = true := by simp [ho5]
      clear ho2 ho5
      go_wp2_with fail
      go_ret
      exact ⟨ret_bool (by rw [HV.out]; exact dec_len xs), HB1.out⟩
    have t5 : (g[f].op == 5) = false := by simp [ho5]
    by_cases ho3 : g[f].op = 3
    · obtain ⟨n, hn, hnl⟩ := glob_num HG.out f hff ho3
      have hnl' : n < ds.length := by omega
      have HV : Hid (valB (arsOf ds) g a = decide ((xs.length : Int) < ds[n].1)) := by
        rw [Hid, valB_glob HS.out (by rw [HOP.out]; exact ho3), numAt_at f hff, hn, arOf_at ds n hnl']
      have t3 : (g[f].op == 3) = true := by simp [ho3]
      obtain ⟨blp, offp, rp, rfl, d0, d1, d2, d3, -⟩ := (HD.out.next HB1.out).at n hnl'
      rw [hn] at c1
      clear ho2 ho5 ho3 hn d1 d2 d3
      go_wp2_with fail
      go_ret
      exact ⟨ret_bool HV.out.symm, HB1.out⟩
    · have t3 : (g[f].op == 3) = false := by simp [ho3]
      have HV : Hid (valB (arsOf ds) g a = false) := valB_no HS.out (by rw [HOP.out]; exact ho2) (by rw [HOP.out]; exact ho5) (by rw [HOP.out]; exact ho3)
      clear ho2 ho5 ho3
      go_wp2_with fail
      go_ret
      exact ⟨ret_bool HV.out.symm, HB1.out⟩

set_option maxHeartbeats 1600000 in
theorem l4Right_calls (ds : List Df) (g : List Ce) (a : Int) (c v : Value) (w : World) (hd : DIn w ds c) (hk : CIn w g v) :
    Calls Try.prog 53 #[c, v, .int .i64 a] w fun e w' => e = .returned (.bool (rightB ds g a)) ∧ Below w.heap.size w w' := by
  have HD : Hid (DIn w ds c) := hd
  have HK : Hid (CIn w g v) := hk
  obtain ⟨ad, cap, rfl, hl, hm, -⟩ := hk
  obtain ⟨adp, capp, rfl, hlp, hmp, -⟩ := hd
  unfold maxLen at hm hmp
  go_enter Try.func53, Try.ntmps53
  go_wp2_with fail
  refine (specProg_calls ds _ _ HD.out).mono ?_
  rintro e w1 ⟨rfl, hb1⟩
  have HB1 : Hid (Below w.heap.size w w1) := hb1
  clear hb1
  cases hp : progB ds with
  | false =>
    have HV : Hid (rightB ds g a = false) := by rw [Hid, rightB, hp]; rfl
    clear hp
    go_wp2_with fail
    go_ret
    exact ⟨ret_bool HV.out.symm, HB1.out⟩
  | true =>
    have HP : Hid (progB ds = true) := hp
    clear hp
    go_wp2_with fail
    refine (specGraph_calls g ds.length _ _ (HK.out.next HB1.out)).mono ?_
    rintro e w2 ⟨rfl, hb2⟩
    have HB2 : Hid (Below w.heap.size w w2) := HB1.out.trans (hb2.mono HB1.out.size)
    clear hb2
    cases hg : graphB g ds.length with
    | false =>
      have HV : Hid (rightB ds g a = false) := by rw [Hid, rightB, hg, Bool.false_and, Bool.and_false]
      clear hg
      go_wp2_with fail
      go_ret
      exact ⟨ret_bool HV.out.symm, HB2.out⟩
    | true =>
      have HV : Hid (rightB ds g a = isAt g.length a) := by rw [Hid, rightB, hg, HP.out, Bool.true_and, Bool.true_and]
      clear hg
      by_cases h0 : a < 0
      · have HI : Hid (isAt g.length a = false) := isAt_lo h0
        go_wp2_with fail
        go_ret
        exact ⟨ret_bool (by rw [HV.out, HI.out]; first | done | rfl | (simp; omega)), HB2.out⟩
      by_cases h1 : (g.length : Int) ≤ a
      · have HI : Hid (isAt g.length a = false) := isAt_hi (by omega)
        go_wp2_with fail
        go_ret
        exact ⟨ret_bool (by rw [HV.out, HI.out]; first | done | rfl | (simp; omega)), HB2.out⟩
      have HI : Hid (isAt g.length a = true) := isAt_in (by omega) (by omega)
      go_wp2_with fail
      go_ret
      exact ⟨ret_bool (by rw [HV.out, HI.out]; first | done | rfl | (simp; omega)), HB2.out⟩

theorem valO_no {ds : List Df} {g : List Ce} {a : Int} (h : rightB ds g a = false) : valO ds g a = false := by unfold valO; rw [h]; rfl
theorem valO_yes {ds : List Df} {g : List Ce} {a : Nat} (h : rightB ds g (a : Int) = true) : valO ds g (a : Int) = valB (arsOf ds) g a := by unfold valO; rw [h, Bool.true_and, Int.toNat_natCast]
end Go.Proofs.Ytglpehelmlehiaa
