/-
  THE MODEL's l3Draw: a program, a valid graph for it, and a root.
-/
import Derived.Test.YtjdlfpdljmohiaaMb9
import Derived.Test.YtjdlfpdljmohiaaMb10
import Derived.Test.YtjdlfpdljmohiaaMb11
import Derived.Test.YtjdlfpdljmohiaaMb2
namespace Go.Proofs.Ytjdlfpdljmohiaa
set_option linter.unusedVariables false
set_option linter.unusedSimpArgs false
open Go.RowKit

/-- a program, a graph for it and a root were drawn -/
def DrawG (w : World) (b p : Nat) (e : Ending) (w' : World) : Prop :=
  ∃ ds G r pv gv p', e = .returned (.tuple #[pv, gv, .int .i64 ((r : Nat) : Int)]) ∧ progB ds = true ∧ graphB G ds.length = true ∧ r < G.length ∧ G.length ≤ 250 ∧ DefsOn w' (PN w.heap.size w') ds pv ∧ OwnC w' w.heap.size (fun x => w.heap.size ≤ x) G gv ∧ RdOn w' b p' ∧ p' ≤ p + 12000 ∧ But b w w'

theorem OwnC.cin {w : World} {lo : Nat} {G : List Ce} {v : Value} (h : OwnC w lo (fun x => lo ≤ x) G v) : CIn w G v := (h.own fun _ h _ => h).inn
theorem OwnC.but {w w' : World} {b lo : Nat} {G : List Ce} {v : Value} (h : OwnC w lo (fun x => lo ≤ x) G v) (hb : But b w w') (hl : b < lo) : OwnC w' lo (fun x => lo ≤ x) G v := by
  obtain ⟨xs, hx⟩ := h.row
  exact h.next (fun _ h _ => h) (fun k hk hk2 => hb.block k hk2 (by have := (own_some hx k hk.symm).1; omega)) fun k hk hk2 => hb.block k hk2 (by have : lo ≤ k := hk; omega)
theorem but_grown {b : Nat} {w2 W w3 : World} {row : Option Nat} (h : But b w2 W) (hg : W.grownBy w3 row) (hr : ∀ k, row = some k → w2.heap.size ≤ k) : But b w2 w3 :=
  ⟨hg.os.trans h.os, hg.tape.trans h.tape, hg.output.trans h.output, Nat.le_trans h.size hg.size, fun k hk hb => (hg.block k (Nat.lt_of_lt_of_le hk h.size) (fun e => by have := hr k e.symm; omega)).trans (h.block k hk hb)⟩
theorem rd_grown {b p : Nat} {W w3 : World} {row : Option Nat} (h : RdOn W b p) (hg : W.grownBy w3 row) (hr : ∀ k, row = some k → b < k) : RdOn w3 b p :=
  h.keep fun k hk => hg.block k (Nat.lt_of_le_of_lt hk h.lt) (fun e => by have := hr k e.symm; omega)

/-- what AddExpr answers in a valid graph -/
theorem addOut_cases {G : List Ce} {n : Nat} (hG : graphB G n = true) (t : Tr) (xs : List Int) : addOut G t xs n = ([], 0, false) ∨ ∃ G5 r5, addOut G t xs n = (G5, r5, true) ∧ graphB G5 n = true ∧ r5 < G5.length ∧ G5.length ≤ G.length + 60 := by
  by_cases h : graphB G n = true ∧ validB t xs.length n = true ∧ xs.all (isAt G.length) = true ∧ (addT (xs.map Int.toNat) t G).1.length ≤ 400
  · refine Or.inr ⟨_, _, addOut_yes h.1 h.2.1 h.2.2.1 h.2.2.2, ?_⟩
    have hv := h.2.1
    unfold validB at hv
    simp only [Bool.and_eq_true, decide_eq_true_eq] at hv
    obtain ⟨⟨hv1, hv2, hv3, hv4⟩, hv5, hv6⟩ := hv
    have hok := addT_ok (defs := n) (args := xs.map Int.toNat) 16 t G (graphB_iff.1 hG).2 (fun x hx => by
      simp only [List.mem_map] at hx
      obtain ⟨z, hz, rfl⟩ := hx
      have := List.all_eq_true.1 h.2.2.1 z hz
      unfold isAt at this
      simp at this
      omega) (by rw [List.length_map]; exact hv5)
    refine ⟨graphB_iff.2 ⟨⟨by omega, hv3, hv4⟩, hok.1⟩, hok.2, ?_⟩
    have := (addT_size (xs.map Int.toNat) t G).2.1
    omega
  · exact Or.inl (addOut_no h)
theorem addOut_goal {t : Tr} {n : Nat} (hv : validB t 0 n = true) : ∃ G5 r5, addOut [] t [] n = (G5, r5, true) ∧ graphB G5 n = true ∧ r5 < G5.length ∧ G5.length ≤ 60 := by
  refine ⟨_, _, by rw [addOut_closed, if_pos hv], ?_⟩
  unfold validB at hv
  simp only [Bool.and_eq_true, decide_eq_true_eq] at hv
  obtain ⟨⟨hv1, hv2, hv3, hv4⟩, hv5, hv6⟩ := hv
  have hok := addT_ok (defs := n) (args := []) 16 t [] (fun c hc => absurd hc (by simp)) (fun x hx => absurd hx (by simp)) (by simpa using hv5)
  have hz := (addT_size [] t []).2.1
  simp only [List.length_nil] at hz
  exact ⟨graphB_iff.2 ⟨⟨by omega, hv3, hv4⟩, hok.1⟩, hok.2, by omega⟩
theorem graphB_ind {G : List Ce} {n r : Nat} (h : graphB G n = true) (hr : r < G.length) (hl : G.length < 400) : graphB (G ++ [indTo r]) n = true := by
  obtain ⟨⟨h1, h2, h3⟩, h4⟩ := graphB_iff.1 h
  refine graphB_iff.2 ⟨⟨by simp; omega, h2, h3⟩, fun c hc => ?_⟩
  rw [List.mem_append, List.mem_singleton] at hc
  have h5 := h4.mono (M := (G ++ [indTo r]).length) (by simp)
  rcases hc with hc | rfl
  · exact h5 c hc
  · have := ind_fits (defs := n) (N := (G ++ [indTo r]).length) (k := r) (by simp; omega)
    exact this

/-- the graph so far -/
structure LdR (ds : List Df) (b lo : Nat) (w2 wr : World) (G : List Ce) (r i p1 : Nat) (gv : Value) : Prop where
  own : OwnC wr lo (fun x => lo ≤ x) G gv
  val : graphB G ds.length = true
  root : r < G.length
  len : G.length + 61 * i ≤ 243
  rd : RdOn wr b p1
  but : But b w2 wr
theorem LdR.next {ds : List Df} {b lo : Nat} {w2 wr w3 : World} {G : List Ce} {r i p1 p2 : Nat} {gv : Value} (h : LdR ds b lo w2 wr G r i p1 gv) (hb : But b wr w3) (hl : b < lo) (hr : RdOn w3 b p2) : LdR ds b lo w2 w3 G r i p2 gv :=
  ⟨h.own.but hb hl, h.val, h.root, h.len, hr, h.but.trans hb⟩

theorem own_frm {w : World} {lo n T s : Nat} {v : Value} {xs : List Value} (h : w.ownsRow lo T s v n xs) : ∃ ad cap, v = .slice ad n cap := by
  rcases h.2 with ⟨rfl, h0⟩ | ⟨g, cap, cur, rfl, -⟩
  · exact ⟨none, 0, by rw [h0]⟩
  · exact ⟨_, _, rfl⟩
/-- two numbers in a row that was just laid -/
theorem ints2_at {w w' : World} {b : Nat} {x y : Int} (hb : But b (w.alloc (.cells #[.int .i64 x, .int .i64 y] 3)) w') (hl : b < w.heap.size) : IIn w' [x, y] (.slice (some ⟨w.heap.size, 0, none⟩) 2 2) := by
  have h := (hb.block w.heap.size (by rw [Deep.nblk_alloc]; omega) (by omega)).trans (Deep.blk_alloc_new _ _)
  refine ⟨_, 2, rfl, Nat.le_refl _, by simp [maxLen], Or.inr ⟨_, 0, rfl, (Array.getElem?_eq_some_iff.1 h).1, fun i hi => ?_⟩⟩
  have hi2 : i = 0 ∨ i = 1 := by simp at hi; omega
  rcases hi2 with rfl | rfl
  · exact cell_of_blk h 0 _ rfl
  · exact cell_of_blk h 1 _ rfl
/-- an indirection is added -/
theorem LdR.ind {ds : List Df} {b lo : Nat} {w2 w6 w8 : World} {G : List Ce} {r i p1 : Nat} {gv v' : Value} {xs : List Value} (h : LdR ds b lo w2 w6 G r i p1 gv) (hlo : lo = w2.heap.size) (hl : b < lo) (hlen : G.length < 400) (hl2 : G.length + 1 + 61 * i ≤ 243) (cobj : Obj)
    (hx : ((w6.alloc (.cells #[.int .i64 (r : Int)] 3)).alloc cobj).ownsRow lo 35 3 gv G.length xs)
    (hown : w8.ownsRow lo 35 3 v' (G.length + 1) (xs ++ [.int .i64 11, .int .i64 0, .slice (some ⟨w6.heap.size, 0, none⟩) 1 1])) (hg : ((w6.alloc (.cells #[.int .i64 (r : Int)] 3)).alloc cobj).grownBy w8 gv.ownBlock) :
    LdR ds b lo w2 w8 (G ++ [indTo r]) G.length i p1 v' := by
  have hbA : Below w6.heap.size w6 ((w6.alloc (.cells #[.int .i64 (r : Int)] 3)).alloc cobj) := (box_below _ _).trans ((box_below _ _).mono (by rw [Deep.nblk_alloc]; omega))
  have hrow : ∀ k, gv.ownBlock = some k → lo ≤ k := fun k hk => (own_some hx k hk).1
  have hs6 : lo ≤ w6.heap.size := by rw [hlo]; exact h.but.size
  have h4 : OwnC ((w6.alloc (.cells #[.int .i64 (r : Int)] 3)).alloc cobj) lo (fun x => lo ≤ x ∧ x < w6.heap.size) G gv := h.own.next (fun k hk hk2 => ⟨hk, hk2⟩) (fun k _ hk => hbA.block k hk) fun k _ hk => hbA.block k hk
  have hk : KRowS ((w6.alloc (.cells #[.int .i64 (r : Int)] 3)).alloc cobj) (fun x => x = w6.heap.size) [(r : Int)] w6.heap.size (.slice (some ⟨w6.heap.size, 0, none⟩) 1 1) := (krow_one w6 r).keep (fun _ h _ => h) fun C h1 h2 _ => Deep.blk_alloc_lt _ _ _ h2
  have h5 := h4.step (c := indTo r) (v' := v') ⟨by simp [I64, indTo], by simp [I64, indTo]⟩ hk (fun h => by have := h.2; omega) xs hx hown hg
  refine ⟨h5.next (fun k hk _ => ?_) (fun _ _ _ => rfl) (fun _ _ _ => rfl), graphB_ind h.val h.root hlen, by simp, by simp; omega, ?_, ?_⟩
  · rcases hk with hk | rfl
    · exact hk.1
    · exact hs6
  · exact rd_grown (h.rd.next hbA) hg fun k hk => by have := hrow k hk; omega
  · exact but_grown (h.but.trans (But.of_below hbA)) hg fun k hk => by have := hrow k hk; omega

set_option maxRecDepth 100000 in
set_option maxHeartbeats 1600000 in
theorem l3Draw_calls (w : World) (b p : Nat) (h : RdOn w b p) (hp : p ≤ 900000) : Calls Try.prog 58 #[.pointer (some ⟨b, 0, none⟩)] w (DrawG w b p) := by
  have hbw := h.lt
  have HR := mkHid h
  clear h
  go_enter Try.func58, Try.ntmps58
  go_wp2_with fail
  refine (l2Goal_calls w b p HR.out (by omega)).mono ?_
  rintro e w1 ⟨ds, t, pv, kv, p1, rfl, hpr, hvt, hto, htn, hd1, hk1, hr1, hp1, hb1⟩
  have HP := mkHid hpr
  have HV := mkHid hvt
  have HT := mkHid (And.intro hto htn)
  have HD1 := mkHid hd1
  have HK1 := mkHid hk1
  have HR1 := mkHid hr1
  have HB1 := mkHid hb1
  have hs1 := hb1.size
  obtain ⟨adp, capp, rfl, hcp1, hcp2, -⟩ := id hd1
  obtain ⟨ade, cape, rfl, -, -, -⟩ := id hk1
  unfold maxLen at hcp2
  have hn6 : ds.length ≤ 6 := by
    have h := hpr
    unfold progB at h
    simp only [Bool.and_eq_true, decide_eq_true_eq] at h
    exact h.1
  clear hpr hvt hto htn hd1 hk1 hr1 hb1
  obtain ⟨G0, r0, hao, hG0, hr0, hl0⟩ := addOut_goal HV.out
  have HSB : Hid (∀ (W : World) (v : Value), In W t.kids v → Calls Try.prog 82 #[.agg #[.int .i64 t.op, .int .i64 t.num, v], .int .i64 (ds.length : Int)] W fun e w' => ∃ gv, e = .returned (.tuple #[gv, .int .i64 (r0 : Int), .bool true]) ∧ OwnC w' W.heap.size (fun x => W.heap.size ≤ x) G0 gv ∧ Below W.heap.size W w') := fun W v h => (specBuild_calls t ds.length v W h HT.out.1 HT.out.2).mono fun e w' ho => by rw [hao] at ho; exact ho
  clear hao
  go_wp2_with fail
  obtain ⟨w2, hw2⟩ : ∃ w2 : World, w2 = w1.alloc (.cells #[.int .i64 t.op, .int .i64 t.num, .slice ade t.kids.length cape] 30) := ⟨_, rfl⟩
  rw [← hw2]
  have hb2 : Below w1.heap.size w1 w2 := by rw [hw2]; exact box_below _ _
  have hz2 : w2.heap.size = w1.heap.size + 1 := by rw [hw2]; exact Deep.nblk_alloc _ _
  have HB2 : Hid (But b w w2) := HB1.out.trans (But.of_below hb2)
  have HR2 := mkHid (HR1.out.next hb2)
  have HD2 : Hid (DefsOn w2 (PN w.heap.size w2) ds (.slice adp ds.length capp)) := defs_but HD1.out (But.of_below (b := b) hb2) hbw
  have HI2 : Hid (In w2 t.kids (.slice ade t.kids.length cape)) := HK1.out.mono (fun k hk => by have := hk.2; show k < w2.heap.size; omega) fun k hk => hb2.block k hk.2
  obtain ⟨lo, hlo⟩ : ∃ lo, lo = w2.heap.size := ⟨_, rfl⟩
  have HLO := mkHid hlo
  have hbl : b < lo := by omega
  clear hw2 hb2
  refine (HSB.out w2 _ HI2.out).mono ?_
  rintro e w3 ⟨gv, rfl, ho3, hb3⟩
  have HL3 : Hid (LdR ds b lo w2 w3 G0 r0 3 p1 gv) := ⟨by rw [hlo]; exact ho3, hG0, hr0, by omega, HR2.out.next hb3, But.of_below hb3⟩
  obtain ⟨adg, capg, rfl⟩ := ho3.form
  clear ho3 hb3 hG0 hr0 hl0 hz2
  go_wp2_with fail
  refine (pick_calls 4 _ b p1 HL3.out.rd (by omega) (by decide)).mono ?_
  rintro e w4 ⟨x, rfl, h0, h1, -, hr4, hb4⟩
  obtain ⟨i0, rfl⟩ := Int.eq_ofNat_of_zero_le h0
  have hi0 : i0 ≤ 3 := by have := h1 (by omega); omega
  have HL4 : Hid (LdR ds b lo w2 w4 G0 r0 i0 (p1 + 1) (.slice adg G0.length capg)) := by
    have h := HL3.out.next hb4 hbl hr4
    exact ⟨h.own, h.val, h.root, by have := h.len; omega, h.rd, h.but⟩
  clear h0 h1 hr4 hb4 hlo
  go_wp2_with fail
  go_loopw [7, 8, 10] (fun gv rv iv wr => ∃ (G : List Ce) (r i p1 : Nat), iv = .int .i64 (i : Int) ∧ rv = .int .i64 (r : Int) ∧ i ≤ 3 ∧ p1 + 2100 * i ≤ p + 11400 ∧ Hid (LdR ds b lo w2 wr G r i p1 gv)) (fun _ _ iv _ => (intOf iv).toNat)
  case atStart => exact ⟨G0, r0, i0, p1 + 1, rfl, rfl, hi0, by omega, HL4.out⟩
  case round =>
    obtain ⟨G, r, i, q1, rfl, rfl, hi, hpos, HL⟩ := hrel
    obtain ⟨adw, capw, rfl⟩ := HL.out.own.form
    have hlen := HL.out.len
    have hroot := HL.out.root
    have hwl : w.heap.size ≤ lo := by have := HLO.out; have := HB2.out.size; omega
    by_cases hi0' : i = 0
    · subst hi0'
      go_wp2_with fail
      exact bodyPost_ret (v := .tuple #[.slice adp ds.length capp, .slice adw G.length capw, .int .i64 (r : Int)]) (by simp [results, Try.results58, go_sem]) rfl ⟨ds, G, r, _, _, q1, rfl, HP.out, HL.out.val, hroot, by omega, defs_but HD2.out HL.out.but hbw, HL.out.own.downS hwl (fun k hk => Nat.le_trans hwl hk), HL.out.rd, by omega, HB2.out.trans HL.out.but⟩
    obtain ⟨m, rfl⟩ : ∃ m, i = m + 1 := ⟨i - 1, by omega⟩
    have hg0 : 0 < G.length := by omega
    have hg0i : (0 : Int) < (G.length : Int) := by omega
    go_wp2_with fail
    refine (pick_calls (G.length : Int) _ b q1 HL.out.rd (by omega) (by omega)).mono ?_
    rintro e w4 ⟨x, rfl, h0, h1, -, hr4, hb4⟩
    obtain ⟨x, rfl⟩ := Int.eq_ofNat_of_zero_le h0
    have HLA := mkHid (HL.out.next hb4 hbl hr4)
    have hsz4 : lo ≤ w4.heap.size := by rw [HLO.out]; exact HLA.out.but.size
    have HLB : Hid (LdR ds b lo w2 (w4.alloc (.cells #[.int .i64 (x : Int), .int .i64 (r : Int)] 3)) G r (m + 1) (q1 + 1) (.slice adw G.length capw)) := HLA.out.next (But.of_below (box_below _ _)) hbl (HLA.out.rd.next (box_below _ _))
    clear h0 h1 hr4 hb4
    go_wp2_with fail
    refine (num_calls [3, 2, 4] (.slice (some ⟨w4.heap.size + 1, 0, none⟩) 3 3) _ b (q1 + 1) (HLB.out.rd.next (box_below _ _)) (by omega) (ints_at (w4.alloc (.cells #[.int .i64 (x : Int), .int .i64 (r : Int)] 3)) (w4.heap.size + 1) (Deep.nblk_alloc _ _) b [3, 2, 4] #[.int .i64 3, .int .i64 2, .int .i64 4] (by omega) rfl (ints_gen [3, 2, 4])) (by simp) (by simp)).mono ?_
    rintro e w5 ⟨z, rfl, hz, hr5, hb5⟩
    have hbb5 : But b (w4.alloc (.cells #[.int .i64 (x : Int), .int .i64 (r : Int)] 3)) w5 := (But.of_below (box_below _ _)).trans hb5
    have HB45 := mkHid hbb5
    have HLC := mkHid (HLB.out.next hbb5 hbl hr5)
    obtain ⟨d, hd, rfl⟩ := small_of hz (by decide)
    have h8 := some_le hd
    have HDL := mkHid hd
    clear hz hr5 hb5 hbb5 hd
    go_wp2_with fail
    refine (sm_any d (by have := HDL.out; omega) 2 ds.length w5 b (q1 + 1 + 1) (by omega) (by omega) HLC.out.rd (by omega)).mono ?_
    rintro e w6 ⟨u, c, q6, rfl, huo, hun, hk6, hsz, hr6, hp6, hb6⟩
    have HU := mkHid (And.intro huo hun)
    have HLD := mkHid (HLC.out.next hb6 hbl hr6)
    have HB46 : Hid (But b (w4.alloc (.cells #[.int .i64 (x : Int), .int .i64 (r : Int)] 3)) w6) := HB45.out.trans hb6
    have HXS := mkHid (ints2_at HB46.out (by omega))
    have HKU : Hid (In w6 u.kids c) := hk6.mono (fun _ h => h.2) fun _ _ => rfl
    have hq6 : q6 ≤ q1 + 2060 := by omega
    obtain ⟨adc, capc, rfl, -, -, -⟩ := id hk6
    clear huo hun hk6 hsz hr6 hp6 hb6 h8
    go_wp2_with fail
    have HAO := mkHid (specAddX_calls G u [(x : Int), (r : Int)] ds.length (.slice adw G.length capw) (.slice adc u.kids.length capc) (.slice (some ⟨w4.heap.size, 0, none⟩) 2 2) w6 HLD.out.own.cin HKU.out HXS.out HU.out.1 HU.out.2)
    have HAC := mkHid (addOut_cases HLD.out.val u [(x : Int), (r : Int)])
    rcases HAC.out with hac | ⟨G5, r5, hac, hG5, hr5, hl5⟩
    · rw [hac] at HAO
      refine HAO.out.mono ?_
      rintro e w7 ⟨v7, rfl, ho7, hb7⟩
      have HLF : Hid (LdR ds b lo w2 w7 G r m q6 (.slice adw G.length capw)) := by
        have h := HLD.out.next (But.of_below hb7) hbl (HLD.out.rd.next hb7)
        exact ⟨h.own, h.val, h.root, by omega, h.rd, h.but⟩
      obtain ⟨ad7, cap7, rfl⟩ := ho7.form
      clear hac ho7 hb7
      simp only []
      go_wp2_with fail
      refine (pick_calls 3 _ b q6 HLF.out.rd (by omega) (by decide)).mono ?_
      rintro e w8 ⟨y, rfl, -, -, -, hr8, hb8⟩
      have HLG := mkHid (HLF.out.next hb8 hbl hr8)
      clear hr8 hb8
      by_cases hy : y = 0
      · subst hy
        have hlt400 : G.length < 400 := by omega
        obtain ⟨xs, hx⟩ := HLG.out.own.row
        have hbA : Below w8.heap.size w8 ((w8.alloc (.cells #[.int .i64 (r : Int)] 3)).alloc (.cells #[.int .i64 11, .int .i64 0, .slice (some ⟨w8.heap.size, 0, none⟩) 1 1] 35)) := (box_below _ _).trans ((box_below _ _).mono (by rw [Deep.nblk_alloc]; omega))
        have HX : Hid (((w8.alloc (.cells #[.int .i64 (r : Int)] 3)).alloc (.cells #[.int .i64 11, .int .i64 0, .slice (some ⟨w8.heap.size, 0, none⟩) 1 1] 35)).ownsRow lo 35 3 (.slice adw G.length capw) G.length xs) := own_keep hx fun k _ hk => hbA.block k hk
        obtain ⟨iC, zC, hII⟩ := infoC1
        have HII : Hid (Try.prog.info? 35 = some iC ∧ iC.zero = some zC ∧ iC.size = 3 ∧ iC.bytes = 40 ∧ zC.cells.size = 3) := hII
        have hs8 : lo ≤ w8.heap.size := by rw [HLO.out]; exact HLG.out.but.size
        have HN3 : Hid (∀ j u, [Value.int .i64 11, Value.int .i64 0, Value.slice (some ⟨w8.heap.size, 0, none⟩) 1 1][j]? = some u → ((w8.alloc (.cells #[.int .i64 (r : Int)] 3)).alloc (.cells #[.int .i64 11, .int .i64 0, .slice (some ⟨w8.heap.size, 0, none⟩) 1 1] 35)).cell? ((⟨w8.heap.size + 1, 0, none⟩ : Addr).add j) = some u) := by
          have h := news3c (w8.alloc (.cells #[.int .i64 (r : Int)] 3)) (.int .i64 11) (.int .i64 0) (.slice (some ⟨w8.heap.size, 0, none⟩) 1 1)
          rw [Deep.nblk_alloc] at h
          exact h
        clear hx hII hbA
        go_wp2_with (at_builtin; go_must (refine wpList_append_where _ rfl _ _ 23 rfl lo 35 iC zC 3 40 Try.underlying23 HII.out.1 HII.out.2.1 HII.out.2.2.1 HII.out.2.2.2.1 HII.out.2.2.2.2 (by decide) (.slice adw G.length capw) G.length xs rfl HX.out ⟨w8.heap.size + 1, 0, none⟩ 1 1 [.int .i64 11, .int .i64 0, .slice (some ⟨w8.heap.size, 0, none⟩) 1 1] rfl rfl HN3.out (by simp [Value.oneCell']) (by unfold maxLen; omega) (by omega) (by rw [Deep.nblk_alloc, Deep.nblk_alloc]; omega) (by omega) ?_); go_must (intro v9 w9 hown hg9 hw9); go_must (have HLH := mkHid (HLG.out.ind (v' := v9) (xs := xs) HLO.out hbl hlt400 (by omega) _ HX.out hown hg9)); go_must (obtain ⟨ad9, cap9, rfl⟩ : ∃ ad cap, v9 = .slice ad (G.length + 1) cap := own_frm hown); clear hown hg9 hw9)
        go_roundw
        case rel => exact ⟨G ++ [indTo r], G.length, m, q6 + 1, by go_num, by go_num, by omega, by omega, HLH.out⟩
        case measure => simp [intOf] <;> omega
      have hyb : (y == 0) = false := by simpa using hy
      clear hy
      go_wp2_with fail
      go_roundw
      case rel => exact ⟨G, r, m, q6 + 1, by go_num, rfl, by omega, by omega, HLG.out⟩
      case measure => simp [intOf] <;> omega
    · rw [hac] at HAO
      refine HAO.out.mono ?_
      rintro e w7 ⟨v7, rfl, ho7, hb7⟩
      have HLF : Hid (LdR ds b lo w2 w7 G5 r5 m q6 v7) := by
        have h := HLD.out.next (But.of_below hb7) hbl (HLD.out.rd.next hb7)
        have hlo6 : lo ≤ w6.heap.size := by rw [HLO.out]; exact HLD.out.but.size
        exact ⟨ho7.downS hlo6 (fun k hk => Nat.le_trans hlo6 hk), hG5, hr5, by omega, h.rd, h.but⟩
      obtain ⟨ad7, cap7, rfl⟩ := ho7.form
      clear hac ho7 hb7
      simp only [] at HLF ⊢
      go_wp2_with fail
      refine (pick_calls 3 _ b q6 HLF.out.rd (by omega) (by decide)).mono ?_
      rintro e w8 ⟨y, rfl, -, -, -, hr8, hb8⟩
      have HLG := mkHid (HLF.out.next hb8 hbl hr8)
      clear hr8 hb8
      by_cases hy : y = 0
      · subst hy
        have hlt400 : G5.length < 400 := by omega
        obtain ⟨xs, hx⟩ := HLG.out.own.row
        have hbA : Below w8.heap.size w8 ((w8.alloc (.cells #[.int .i64 (r5 : Int)] 3)).alloc (.cells #[.int .i64 11, .int .i64 0, .slice (some ⟨w8.heap.size, 0, none⟩) 1 1] 35)) := (box_below _ _).trans ((box_below _ _).mono (by rw [Deep.nblk_alloc]; omega))
        have HX : Hid (((w8.alloc (.cells #[.int .i64 (r5 : Int)] 3)).alloc (.cells #[.int .i64 11, .int .i64 0, .slice (some ⟨w8.heap.size, 0, none⟩) 1 1] 35)).ownsRow lo 35 3 (.slice ad7 G5.length cap7) G5.length xs) := own_keep hx fun k _ hk => hbA.block k hk
        obtain ⟨iC, zC, hII⟩ := infoC1
        have HII : Hid (Try.prog.info? 35 = some iC ∧ iC.zero = some zC ∧ iC.size = 3 ∧ iC.bytes = 40 ∧ zC.cells.size = 3) := hII
        have hs8 : lo ≤ w8.heap.size := by rw [HLO.out]; exact HLG.out.but.size
        have HN3 : Hid (∀ j u, [Value.int .i64 11, Value.int .i64 0, Value.slice (some ⟨w8.heap.size, 0, none⟩) 1 1][j]? = some u → ((w8.alloc (.cells #[.int .i64 (r5 : Int)] 3)).alloc (.cells #[.int .i64 11, .int .i64 0, .slice (some ⟨w8.heap.size, 0, none⟩) 1 1] 35)).cell? ((⟨w8.heap.size + 1, 0, none⟩ : Addr).add j) = some u) := by
          have h := news3c (w8.alloc (.cells #[.int .i64 (r5 : Int)] 3)) (.int .i64 11) (.int .i64 0) (.slice (some ⟨w8.heap.size, 0, none⟩) 1 1)
          rw [Deep.nblk_alloc] at h
          exact h
        clear hx hII hbA
        go_wp2_with (at_builtin; go_must (refine wpList_append_where _ rfl _ _ 23 rfl lo 35 iC zC 3 40 Try.underlying23 HII.out.1 HII.out.2.1 HII.out.2.2.1 HII.out.2.2.2.1 HII.out.2.2.2.2 (by decide) (.slice ad7 G5.length cap7) G5.length xs rfl HX.out ⟨w8.heap.size + 1, 0, none⟩ 1 1 [.int .i64 11, .int .i64 0, .slice (some ⟨w8.heap.size, 0, none⟩) 1 1] rfl rfl HN3.out (by simp [Value.oneCell']) (by unfold maxLen; omega) (by omega) (by rw [Deep.nblk_alloc, Deep.nblk_alloc]; omega) (by omega) ?_); go_must (intro v9 w9 hown hg9 hw9); go_must (have HLH := mkHid (HLG.out.ind (v' := v9) (xs := xs) HLO.out hbl hlt400 (by omega) _ HX.out hown hg9)); go_must (obtain ⟨ad9, cap9, rfl⟩ : ∃ ad cap, v9 = .slice ad (G5.length + 1) cap := own_frm hown); clear hown hg9 hw9)
        go_roundw
        case rel => exact ⟨G5 ++ [indTo r5], G5.length, m, q6 + 1, by go_num, by go_num, by omega, by omega, HLH.out⟩
        case measure => simp [intOf] <;> omega
      have hyb : (y == 0) = false := by simpa using hy
      clear hy
      go_wp2_with fail
      go_roundw
      case rel => exact ⟨G5, r5, m, q6 + 1, by go_num, rfl, by omega, by omega, HLG.out⟩
      case measure => simp [intOf] <;> omega
end Go.Proofs.Ytjdlfpdljmohiaa
/-
  THE MODEL's l3Mutate: a copy of a graph, sometimes made invalid.
-/
namespace Go.Proofs.Ytjdlfpdljmohiaa
set_option linter.unusedVariables false
set_option linter.unusedSimpArgs false
open Go.RowKit

theorem rows_i64 {L : List Int} {y : Int} (hy : y ∈ L) (hL : ∀ z ∈ L, -1000000 ≤ z ∧ z ≤ 1000000) : I64 y := by have := hL y hy; unfold I64; omega
/-- numbers that a call has built by append -/
theorem ints_own {w : World} {lo : Nat} {L : List Int} {v : Value} (h : w.ownsRow lo 3 1 v L.length (L.map fun (a : Int) => Value.int .i64 a)) : IntsOn w (Btw lo w.heap.size) L v := by
  rcases h.2 with ⟨rfl, h0⟩ | ⟨g, cap, cur, rfl, hg, hh, hn, hc, hs, htk⟩
  · obtain rfl : L = [] := List.eq_nil_of_length_eq_zero h0
    exact ⟨none, 0, rfl, Nat.le_refl _, by simp [maxLen], Or.inl rfl⟩
  · refine ⟨_, cap, rfl, hn, hc, Or.inr ⟨g, 0, rfl, ⟨hg, (Array.getElem?_eq_some_iff.1 hh).1⟩, fun i hi => ?_⟩⟩
    refine cell_of_blk hh (0 + i) _ ?_
    rw [Nat.zero_add]
    rw [Nat.mul_one] at htk
    have e1 : (cur.toList.take L.length)[i]? = (L.map fun (a : Int) => Value.int .i64 a)[i]? := by rw [htk]
    rw [List.getElem?_take_of_lt hi] at e1
    simpa [hi] using e1
theorem own_uniq {w : World} {lo lo2 T s n : Nat} {v : Value} {xs ys : List Value} (h : w.ownsRow lo T s v n xs) (h2 : w.ownsRow lo2 T s v n ys) : xs = ys := by
  rcases h.2 with ⟨rfl, h0⟩ | ⟨b, cap, cur, rfl, hg', hh, hn', hc', hs', htk⟩
  · have a1 := h.1
    have a2 := h2.1
    rw [h0] at a1 a2
    rw [List.eq_nil_of_length_eq_zero (by omega : xs.length = 0), List.eq_nil_of_length_eq_zero (by omega : ys.length = 0)]
  · rcases h2.2 with ⟨e, -⟩ | ⟨b2, cap2, cur2, e, -, hh2, -, -, -, htk2⟩
    · cases e
    · cases e
      rw [hh] at hh2
      cases hh2
      rw [← htk, ← htk2]

/-- a graph in a row of its own, its operands in rows of their own that can be appended to -/
structure RowK (w : World) (lo b0 cap : Nat) (g : List Ce) (xs : List Value) (KV : Nat → Value) : Prop where
  row : w.ownsRow lo 35 3 (.slice (some ⟨b0, 0, none⟩) g.length cap) g.length xs
  at' : ∀ j (hj : j < g.length), xs[j * 3]? = some (.int .i64 g[j].op) ∧ xs[j * 3 + 1]? = some (.int .i64 g[j].num) ∧ xs[j * 3 + 2]? = some (KV j) ∧ I64 g[j].op ∧ I64 g[j].num
  kid : ∀ j (hj : j < g.length), w.ownsRow lo 3 1 (KV j) g[j].kids.length (g[j].kids.map fun (a : Int) => Value.int .i64 a)
  ne : ∀ i j, i < g.length → j < g.length → i ≠ j → ∀ b, (KV i).ownBlock = some b → (KV j).ownBlock ≠ some b
theorem rowK_of {w : World} {lo b0 n cap : Nat} {g : List Ce} {xs : List Value} (h : OwnC w lo (fun x => lo ≤ x) g (.slice (some ⟨b0, 0, none⟩) n cap)) (hk : KStk w lo g (.slice (some ⟨b0, 0, none⟩) n cap) xs) : ∃ KV, RowK w lo b0 cap g xs KV := by
  obtain ⟨hi0, ys, kb, h1, h2, h3⟩ := h
  obtain ⟨k1, KV, k2, k3⟩ := hk
  have hxy := own_uniq k1 h1
  subst hxy
  have hn : n = g.length := by
    rcases k1.2 with ⟨e, -⟩ | ⟨b, cap, cur, e, -⟩
    · cases e
    · cases e; rfl
  subst hn
  refine ⟨KV, k1, fun j hj => ?_, fun j hj => ?_, k3⟩
  · obtain ⟨kv, e0, e1, e2, -⟩ := h2 j hj
    exact ⟨e0, e1, (k2 j hj).1, (hi0 j hj).1, (hi0 j hj).2⟩
  · obtain ⟨-, ws, hs, he⟩ := k2 j hj
    have hv : g[j].kids.map (fun (a : Int) => Value.int .i64 a) = plV ws := by rw [he]; simp [plV, Function.comp_def]
    have hl : g[j].kids.length = ws.length := by rw [he]; simp
    rw [hv, hl]
    exact hs
theorem RowK.but {w w' : World} {lo b0 cap b : Nat} {g : List Ce} {xs : List Value} {KV : Nat → Value} (h : RowK w lo b0 cap g xs KV) (hb : But b w w') (hl : b < lo) : RowK w' lo b0 cap g xs KV := by
  have keep : ∀ {T s n : Nat} {v : Value} {ys : List Value}, w.ownsRow lo T s v n ys → w'.ownsRow lo T s v n ys := by
    intro T s n v ys h
    refine ⟨h.1, ?_⟩
    rcases h.2 with h' | ⟨g, cap, cur, rfl, hg, hh, r⟩
    · exact Or.inl h'
    · exact Or.inr ⟨g, cap, cur, rfl, hg, (hb.block g (Array.getElem?_eq_some_iff.1 hh).1 (by omega)).trans hh, r⟩
  exact ⟨keep h.row, h.at', fun j hj => keep (h.kid j hj), h.ne⟩
theorem own_kept {w w' : World} {lo T s n : Nat} {v : Value} {ys : List Value} (h : w.ownsRow lo T s v n ys) (hb : ∀ k, v.ownBlock = some k → k < w.heap.size → w'.heap[k]? = w.heap[k]?) : w'.ownsRow lo T s v n ys := by
  refine ⟨h.1, ?_⟩
  rcases h.2 with h' | ⟨g, cap, cur, rfl, hg, hh, r⟩
  · exact Or.inl h'
  · exact Or.inr ⟨g, cap, cur, rfl, hg, (hb g rfl (Array.getElem?_eq_some_iff.1 hh).1).trans hh, r⟩
/-- two rows of different types are different blocks -/
theorem own_types {w : World} {lo lo2 T T2 s s2 n n2 : Nat} {v v2 : Value} {xs ys : List Value} (h : w.ownsRow lo T s v n xs) (h2 : w.ownsRow lo2 T2 s2 v2 n2 ys) (hT : T ≠ T2) {b : Nat} (hb : v.ownBlock = some b) : v2.ownBlock ≠ some b := by
  intro e
  rcases h.2 with ⟨rfl, -⟩ | ⟨g, cap, cur, rfl, -, hh, -⟩
  · simp [Value.ownBlock] at hb
  · rcases h2.2 with ⟨rfl, -⟩ | ⟨g2, cap2, cur2, rfl, -, hh2, -⟩
    · simp [Value.ownBlock] at e
    · simp only [Value.ownBlock, Option.some.injEq] at hb e
      subst hb
      subst e
      rw [hh] at hh2
      simp at hh2
      exact hT hh2.2
theorem cell_ne_int : (35 : TypeId) ≠ 3 := by decide
/-- a graph, out of its row -/
theorem cells_row {w : World} {lo b0 cap : Nat} {g : List Ce} {xs : List Value} (h : w.ownsRow lo 35 3 (.slice (some ⟨b0, 0, none⟩) g.length cap) g.length xs)
    (hk : ∀ j (hj : j < g.length), ∃ c, xs[j * 3]? = some (.int .i64 g[j].op) ∧ xs[j * 3 + 1]? = some (.int .i64 g[j].num) ∧ xs[j * 3 + 2]? = some c ∧ I64 g[j].op ∧ I64 g[j].num ∧ IntsOn w (Btw lo w.heap.size) g[j].kids c) : CellsOn w (Btw lo w.heap.size) g (.slice (some ⟨b0, 0, none⟩) g.length cap) := by
  rcases h.2 with ⟨e, -⟩ | ⟨b, cap2, cur, e, hg, hh, hn, hc, hs, htk⟩
  · cases e
  cases e
  refine ⟨_, cap, rfl, hn, hc, Or.inr ⟨b0, 0, rfl, ⟨hg, (Array.getElem?_eq_some_iff.1 hh).1⟩, fun i hi => ?_⟩⟩
  obtain ⟨c, e0, e1, e2, i0, i1, hi2⟩ := hk i hi
  have get : ∀ m u, m < g.length * 3 → xs[m]? = some u → w.cell? ⟨b0, m, none⟩ = some u := by
    intro m u hm hu
    refine cell_of_blk hh m _ ?_
    rw [← htk, List.getElem?_take_of_lt hm] at hu
    simpa using hu
  refine ⟨c, ?_, ?_, ?_, i0, i1, hi2⟩
  · rw [Nat.zero_add]; exact get _ _ (by omega) e0
  · rw [Nat.zero_add]; exact get _ _ (by omega) e1
  · rw [Nat.zero_add]; exact get _ _ (by omega) e2
theorem RowK.cells {w : World} {lo b0 cap : Nat} {g : List Ce} {xs : List Value} {KV : Nat → Value} (h : RowK w lo b0 cap g xs KV) : CellsOn w (Btw lo w.heap.size) g (.slice (some ⟨b0, 0, none⟩) g.length cap) :=
  cells_row h.row fun j hj => ⟨KV j, (h.at' j hj).1, (h.at' j hj).2.1, (h.at' j hj).2.2.1, (h.at' j hj).2.2.2.1, (h.at' j hj).2.2.2.2, ints_own (h.kid j hj)⟩
/-- one cell is another one: the row has been written, and its operands lie in new memory -/
theorem RowK.upd {w w' : World} {lo b0 cap : Nat} {g : List Ce} {xs ys : List Value} {KV : Nat → Value} (h : RowK w lo b0 cap g xs KV) (k : Nat) (hk : k < g.length) (c : Ce) (kv : Value)
    (hrow : w'.ownsRow lo 35 3 (.slice (some ⟨b0, 0, none⟩) g.length cap) g.length ys) (hys : ∀ m, m < g.length * 3 → m / 3 ≠ k → ys[m]? = xs[m]?)
    (hc : ys[k * 3]? = some (.int .i64 c.op) ∧ ys[k * 3 + 1]? = some (.int .i64 c.num) ∧ ys[k * 3 + 2]? = some kv ∧ I64 c.op ∧ I64 c.num) (hkids : IntsOn w' (Btw lo w'.heap.size) c.kids kv)
    (hb : ∀ j, j < g.length → j ≠ k → ∀ x, (KV j).ownBlock = some x → x < w.heap.size → w'.heap[x]? = w.heap[x]?) : CellsOn w' (Btw lo w'.heap.size) (g.set k c) (.slice (some ⟨b0, 0, none⟩) g.length cap) := by
  have hl : (g.set k c).length = g.length := List.length_set
  rw [← hl] at hrow ⊢
  refine cells_row hrow fun j hj => ?_
  rw [hl] at hj
  by_cases hjk : j = k
  · subst hjk
    simp only [List.getElem_set_self]
    exact ⟨kv, hc.1, hc.2.1, hc.2.2.1, hc.2.2.2.1, hc.2.2.2.2, hkids⟩
  · rw [List.getElem_set_ne (by omega)]
    obtain ⟨a1, a2, a3, a4, a5⟩ := h.at' j hj
    exact ⟨KV j, by rw [hys _ (by omega) (by omega)]; exact a1, by rw [hys _ (by omega) (by omega)]; exact a2, by rw [hys _ (by omega) (by omega)]; exact a3, a4, a5, ints_own (own_kept (h.kid j hj) (hb j hj hjk))⟩
theorem RowK.lt {w : World} {lo b0 cap : Nat} {g : List Ce} {xs : List Value} {KV : Nat → Value} (h : RowK w lo b0 cap g xs KV) : lo ≤ b0 ∧ b0 < w.heap.size := own_some h.row b0 rfl
theorem RowK.kidNe {w : World} {lo b0 cap : Nat} {g : List Ce} {xs : List Value} {KV : Nat → Value} (h : RowK w lo b0 cap g xs KV) (j : Nat) (hj : j < g.length) {x : Nat} (hx : (KV j).ownBlock = some x) : x ≠ b0 := by
  have := own_types (h.kid j hj) h.row (fun e => cell_ne_int e.symm) hx
  intro e
  subst e
  exact this rfl
/-- the operator is another one -/
theorem RowK.setOp {w : World} {lo b0 cap : Nat} {g : List Ce} {xs : List Value} {KV : Nat → Value} (h : RowK w lo b0 cap g xs KV) (k : Nat) (hk : k < g.length) (y : Int) (hy : I64 y) :
    CellsOn (w.setCell ⟨b0, k * 3, none⟩ (.int .i64 y)) (Btw lo (w.setCell ⟨b0, k * 3, none⟩ (.int .i64 y)).heap.size) (g.set k ⟨y, g[k].num, g[k].kids⟩) (.slice (some ⟨b0, 0, none⟩) g.length cap) := by
  have hl := h.row.1
  obtain ⟨a1, a2, a3, a4, a5⟩ := h.at' k hk
  have hoth : ∀ j, j < g.length → ∀ x, (KV j).ownBlock = some x → x < w.heap.size → (w.setCell ⟨b0, k * 3, none⟩ (.int .i64 y)).heap[x]? = w.heap[x]? := fun j hj x hx _ => Below.heap_setCell _ _ _ _ (h.kidNe j hj hx)
  refine h.upd k hk ⟨y, g[k].num, g[k].kids⟩ (KV k) (h.row.stored (k * 3) (.int .i64 y)).1 (fun m hm hmk => List.getElem?_set_ne (by omega)) ⟨List.getElem?_set_self (by omega), by rw [List.getElem?_set_ne (by omega)]; exact a2, by rw [List.getElem?_set_ne (by omega)]; exact a3, hy, a5⟩ (ints_own (own_kept (h.kid k hk) (hoth k hk))) fun j hj _ => hoth j hj
/-- the number is another one -/
theorem RowK.setNum {w : World} {lo b0 cap : Nat} {g : List Ce} {xs : List Value} {KV : Nat → Value} (h : RowK w lo b0 cap g xs KV) (k : Nat) (hk : k < g.length) (y : Int) (hy : I64 y) :
    CellsOn (w.setCell ⟨b0, k * 3 + 1, none⟩ (.int .i64 y)) (Btw lo (w.setCell ⟨b0, k * 3 + 1, none⟩ (.int .i64 y)).heap.size) (g.set k ⟨g[k].op, y, g[k].kids⟩) (.slice (some ⟨b0, 0, none⟩) g.length cap) := by
  have hl := h.row.1
  obtain ⟨a1, a2, a3, a4, a5⟩ := h.at' k hk
  have hoth : ∀ j, j < g.length → ∀ x, (KV j).ownBlock = some x → x < w.heap.size → (w.setCell ⟨b0, k * 3 + 1, none⟩ (.int .i64 y)).heap[x]? = w.heap[x]? := fun j hj x hx _ => Below.heap_setCell _ _ _ _ (h.kidNe j hj hx)
  refine h.upd k hk ⟨g[k].op, y, g[k].kids⟩ (KV k) (h.row.stored (k * 3 + 1) (.int .i64 y)).1 (fun m hm hmk => List.getElem?_set_ne (by omega)) ⟨by rw [List.getElem?_set_ne (by omega)]; exact a1, List.getElem?_set_self (by omega), by rw [List.getElem?_set_ne (by omega)]; exact a3, a4, hy⟩ (ints_own (own_kept (h.kid k hk) (hoth k hk))) fun j hj _ => hoth j hj
/-- the first operand is another one -/
theorem RowK.setKid {w : World} {lo b0 cap kb kc : Nat} {g : List Ce} {xs : List Value} {KV : Nat → Value} (h : RowK w lo b0 cap g xs KV) (k : Nat) (hk : k < g.length) (hkv : KV k = .slice (some ⟨kb, 0, none⟩) g[k].kids.length kc) (y : Int) :
    CellsOn (w.setCell ⟨kb, 0, none⟩ (.int .i64 y)) (Btw lo (w.setCell ⟨kb, 0, none⟩ (.int .i64 y)).heap.size) (g.set k ⟨g[k].op, g[k].num, g[k].kids.set 0 y⟩) (.slice (some ⟨b0, 0, none⟩) g.length cap) := by
  have hl := h.row.1
  obtain ⟨a1, a2, a3, a4, a5⟩ := h.at' k hk
  have hown : (KV k).ownBlock = some kb := by rw [hkv]; rfl
  have hne := h.kidNe k hk hown
  have hkid := h.kid k hk
  rw [hkv] at hkid
  have hst := (hkid.stored 0 (.int .i64 y)).1
  have e : (g[k].kids.map fun (a : Int) => Value.int .i64 a).set 0 (.int .i64 y) = (g[k].kids.set 0 y).map fun (a : Int) => Value.int .i64 a := by rw [List.map_set]
  rw [e] at hst
  refine h.upd k hk ⟨g[k].op, g[k].num, g[k].kids.set 0 y⟩ (KV k) (own_kept h.row fun x hx _ => Below.heap_setCell _ _ _ _ (fun e => by simp only [Value.ownBlock, Option.some.injEq] at hx; exact hne (by rw [hx]; exact e.symm))) (fun m hm hmk => rfl) ⟨a1, a2, a3, a4, a5⟩ ?_ fun j hj hjk x hx _ => Below.heap_setCell _ _ _ _ (fun e => h.ne k j hk hj (by omega) kb hown (by rw [hx]; exact congrArg some e))
  rw [hkv]
  refine ints_own ?_
  simpa using hst
/-- one operand more -/
theorem RowK.push {w w1 : World} {lo b0 cap : Nat} {g : List Ce} {xs : List Value} {KV : Nat → Value} (h : RowK w lo b0 cap g xs KV) (k : Nat) (hk : k < g.length) (y : Int) (v' : Value)
    (hown : w1.ownsRow lo 3 1 v' (g[k].kids.length + 1) ((g[k].kids.map fun (a : Int) => Value.int .i64 a) ++ [.int .i64 y])) (hg : w.grownBy w1 (KV k).ownBlock) :
    CellsOn (w1.setCell ⟨b0, k * 3 + 2, none⟩ v') (Btw lo (w1.setCell ⟨b0, k * 3 + 2, none⟩ v').heap.size) (g.set k ⟨g[k].op, g[k].num, g[k].kids ++ [y]⟩) (.slice (some ⟨b0, 0, none⟩) g.length cap) := by
  have hl := h.row.1
  obtain ⟨a1, a2, a3, a4, a5⟩ := h.at' k hk
  have hr1 : w1.ownsRow lo 35 3 (.slice (some ⟨b0, 0, none⟩) g.length cap) g.length xs := own_kept h.row fun x hx hx2 => hg.block x hx2 (fun e => by
    have := own_types h.row (h.kid k hk) cell_ne_int hx
    exact this e.symm)
  refine h.upd k hk ⟨g[k].op, g[k].num, g[k].kids ++ [y]⟩ v' (hr1.stored (k * 3 + 2) v').1 (fun m hm hmk => List.getElem?_set_ne (by omega)) ⟨by rw [List.getElem?_set_ne (by omega)]; exact a1, by rw [List.getElem?_set_ne (by omega)]; exact a2, List.getElem?_set_self (by omega), a4, a5⟩ ?_ fun j hj hjk x hx hx2 => ?_
  · refine ints_own (own_kept (w := w1) ?_ fun x hx _ => Below.heap_setCell _ _ _ _ (fun e => ?_))
    · simpa using hown
    · have := own_types hown hr1 (fun e => cell_ne_int e.symm) hx
      subst e
      exact this rfl
  · exact (Below.heap_setCell _ _ _ _ (h.kidNe j hj hx)).trans (hg.block x hx2 (fun e => h.ne k j hk hj (by omega) x e.symm hx))
/-- a cell that stands for itself -/
theorem RowK.setAll {w : World} {lo b0 cap : Nat} {g : List Ce} {xs : List Value} {KV : Nat → Value} (h : RowK w lo b0 cap g xs KV) (k : Nat) (hk : k < g.length) (hlo : lo ≤ w.heap.size) :
    CellsOn (st3 (w.alloc (.cells #[.int .i64 (k : Int)] 3)) b0 k 11 0 (.slice (some ⟨w.heap.size, 0, none⟩) 1 1)) (Btw lo (st3 (w.alloc (.cells #[.int .i64 (k : Int)] 3)) b0 k 11 0 (.slice (some ⟨w.heap.size, 0, none⟩) 1 1)).heap.size) (g.set k ⟨11, 0, [(k : Int)]⟩) (.slice (some ⟨b0, 0, none⟩) g.length cap) := by
  have hl := h.row.1
  have hb0 := h.lt
  have hr1 : (w.alloc (.cells #[.int .i64 (k : Int)] 3)).ownsRow lo 35 3 (.slice (some ⟨b0, 0, none⟩) g.length cap) g.length xs := own_kept h.row fun x _ hx => Deep.blk_alloc_lt _ _ _ hx
  have r1 := (hr1.stored (k * 3) (.int .i64 11)).1
  have r2 := (r1.stored (k * 3 + 1) (.int .i64 0)).1
  have r3 := (r2.stored (k * 3 + 2) (.slice (some ⟨w.heap.size, 0, none⟩) 1 1)).1
  refine h.upd k hk ⟨11, 0, [(k : Int)]⟩ (.slice (some ⟨w.heap.size, 0, none⟩) 1 1) r3 (fun m hm hmk => by rw [List.getElem?_set_ne (by omega), List.getElem?_set_ne (by omega), List.getElem?_set_ne (by omega)]) ⟨by rw [List.getElem?_set_ne (by omega), List.getElem?_set_ne (by omega), List.getElem?_set_self (by omega)], by rw [List.getElem?_set_ne (by omega), List.getElem?_set_self (by rw [List.length_set]; omega)], by rw [List.getElem?_set_self (by rw [List.length_set, List.length_set]; omega)], by simp [I64], by simp [I64]⟩ ?_ fun j hj hjk x hx hx2 => ?_
  · have hn : (st3 (w.alloc (.cells #[.int .i64 (k : Int)] 3)) b0 k 11 0 (.slice (some ⟨w.heap.size, 0, none⟩) 1 1)).heap[w.heap.size]? = some (.cells #[.int .i64 (k : Int)] 3) := (st3_block (by omega)).trans (Deep.blk_alloc_new _ _)
    refine ⟨_, 1, rfl, Nat.le_refl _, by simp [maxLen], Or.inr ⟨w.heap.size, 0, rfl, ⟨hlo, (Array.getElem?_eq_some_iff.1 hn).1⟩, fun i hi => ?_⟩⟩
    obtain rfl : i = 0 := by simp at hi; omega
    exact cell_of_blk hn 0 _ rfl
  · exact (st3_block (h.kidNe j hj hx)).trans (Deep.blk_alloc_lt _ _ _ hx2)
end Go.Proofs.Ytjdlfpdljmohiaa
/-
  THE MODEL's l3Mutate: the walk.
-/
namespace Go.Proofs.Ytjdlfpdljmohiaa
set_option linter.unusedVariables false
set_option linter.unusedSimpArgs false
open Go.RowKit

/-- a graph that may not be valid -/
def MutD (G : List Ce) (w : World) (b p : Nat) (e : Ending) (w' : World) : Prop := ∃ G' gv' p', e = .returned gv' ∧ CellsOn w' (Btw w.heap.size w'.heap.size) G' gv' ∧ G'.length = G.length ∧ RdOn w' b p' ∧ p' ≤ p + 3 ∧ But b w w'
theorem MutD.drew {G : List Ce} {w w' : World} {b p : Nat} {e : Ending} (h : MutD G w b p e w') : MutD G w b p e w'.drew := by
  obtain ⟨G', gv', p', h0, h1, h2, h3, h4, h5⟩ := h
  exact ⟨G', gv', p', h0, h1.mono (fun _ hk => hk) fun _ _ => rfl, h2, h3.drew, h4, h5.drew⟩
theorem mutD_of {G G' : List Ce} {w w' : World} {b p p' : Nat} {gv' : Value} (h1 : CellsOn w' (Btw w.heap.size w'.heap.size) G' gv') (h2 : G'.length = G.length) (h3 : RdOn w' b p') (h4 : p' ≤ p + 3) (h5 : But b w w') : MutD G w b p (.returned gv') w' := ⟨G', gv', p', rfl, h1, h2, h3, h4, h5⟩
theorem RowK.blk {w : World} {lo b0 cap : Nat} {g : List Ce} {xs : List Value} {KV : Nat → Value} (h : RowK w lo b0 cap g xs KV) : ∃ C, w.heap[b0]? = some (.cells C 35) ∧ ∀ k, k < g.length → C[k * 3]? = xs[k * 3]? ∧ C[k * 3 + 1]? = xs[k * 3 + 1]? ∧ C[k * 3 + 2]? = xs[k * 3 + 2]? := by
  rcases h.row.2 with ⟨e, -⟩ | ⟨b, cap2, cur, e, hg, hh, hn, hc, hs, htk⟩
  · cases e
  cases e
  refine ⟨cur, hh, fun k hk => ?_⟩
  have get : ∀ m, m < g.length * 3 → cur[m]? = xs[m]? := by
    intro m hm
    rw [← htk, List.getElem?_take_of_lt hm]
    simp
  exact ⟨get _ (by omega), get _ (by omega), get _ (by omega)⟩
theorem RowK.cell {w : World} {lo b0 cap : Nat} {g : List Ce} {xs : List Value} {KV : Nat → Value} (h : RowK w lo b0 cap g xs KV) (k : Nat) (hk : k < g.length) :
    w.cell? ⟨b0, k * 3, none⟩ = some (.int .i64 g[k].op) ∧ w.cell? ⟨b0, k * 3 + 1, none⟩ = some (.int .i64 g[k].num) ∧ w.cell? ⟨b0, k * 3 + 2, none⟩ = some (KV k) ∧ (∀ i, w.frozen? ⟨b0, i, none⟩ = false) := by
  obtain ⟨C, hC, hx⟩ := h.blk
  obtain ⟨a1, a2, a3, -, -⟩ := h.at' k hk
  obtain ⟨x1, x2, x3⟩ := hx k hk
  exact ⟨cell_of_blk hC _ _ (x1.trans a1), cell_of_blk hC _ _ (x2.trans a2), cell_of_blk hC _ _ (x3.trans a3), fun i => frz_of_blk hC i⟩
theorem RowK.row1 {w w1 : World} {lo b0 cap : Nat} {g : List Ce} {xs : List Value} {KV : Nat → Value} (h : RowK w lo b0 cap g xs KV) (k : Nat) (hk : k < g.length) (hg : w.grownBy w1 (KV k).ownBlock) : w1.heap[b0]? = w.heap[b0]? :=
  hg.block b0 h.lt.2 (fun e => (h.kidNe k hk e.symm) rfl)
theorem newsi (w : World) (y : Int) : ∀ j u, [Value.int .i64 y][j]? = some u → (w.alloc (.cells #[.int .i64 y] 3)).cell? ((⟨w.heap.size, 0, none⟩ : Addr).add j) = some u := by
  intro j u hu
  rw [WideShapes.add_plain, Nat.zero_add]
  exact box_cell w #[.int .i64 y] _ j u (by simpa using hu)
theorem kid_small {G : List Ce} {defs : Int} (hg : graphB G defs = true) (k : Nat) (hk : k < G.length) : G[k].kids.length ≤ 3 := (kids_graph hg k hk).1
theorem row_slice {w : World} {lo T s n : Nat} {v : Value} {xs : List Value} (h : w.ownsRow lo T s v n xs) (hn : 0 < n) (hpos : 0 < s) : ∃ g cap, v = .slice (some ⟨g, 0, none⟩) n cap ∧ n ≤ cap ∧ cap ≤ maxLen ∧ (∀ i, w.frozen? ⟨g, i, none⟩ = false) ∧ lo ≤ g ∧ g < w.heap.size ∧ (∃ u, w.cell? ⟨g, 0, none⟩ = some u) := by
  rcases h.2 with ⟨e, h0⟩ | ⟨g, cap, cur, e, hg, hh, h1, h2, h3, h4⟩
  · omega
  · refine ⟨g, cap, e, h1, h2, fun i => frz_of_blk hh i, hg, (Array.getElem?_eq_some_iff.1 hh).1, ?_⟩
    have hs : 0 < cur.size := by rw [h3]; exact Nat.mul_pos (by omega) hpos
    exact ⟨cur[0], cell_of_blk hh 0 _ (by simp [hs])⟩

set_option maxRecDepth 100000 in
set_option maxHeartbeats 1600000 in
theorem l3Mutate_calls (G : List Ce) (gv : Value) (w : World) (b p : Nat) (h : RdOn w b p) (hp : p ≤ 1000000) (hk : CIn w G gv) (hg : ∃ defs, graphB G defs = true) (hl : G.length ≤ 250) :
    Calls Try.prog 61 #[.pointer (some ⟨b, 0, none⟩), gv] w (MutD G w b p) := by
  have hbw := h.lt
  have HR := mkHid h
  have HK := mkHid hk
  have HG := mkHid hg
  obtain ⟨adg, capg, rfl, -, -, -⟩ := hk
  clear h hg
  go_enter Try.func61, Try.ntmps61
  go_wp2_with fail
  refine (l3CopyK_calls G _ w HK.out HG.out).mono ?_
  rintro e w1 ⟨v1, xs, rfl, ho1, hks1, hb1⟩
  have HR1 := mkHid (HR.out.next hb1)
  have HB1 : Hid (But b w w1) := But.of_below hb1
  have HO1 := mkHid ho1
  have HKS := mkHid hks1
  have hs1 : w.heap.size ≤ w1.heap.size := hb1.size
  by_cases hG0 : G.length = 0
  · obtain ⟨ad1, cap1, rfl⟩ := ho1.form
    clear ho1 hks1 hb1
    have hGz : (G.length : Int) = 0 := by omega
    have HC1 : Hid (CellsOn w1 (Btw w.heap.size w1.heap.size) G (.slice ad1 0 cap1)) := by
      have h : CellsOn w1 (Btw w.heap.size w1.heap.size) G (.slice ad1 G.length cap1) := (HO1.out.own fun _ h _ => h).onS fun k hk hk2 => ⟨by rw [List.mem_range'_1] at hk; exact hk.1, hk2⟩
      rw [hG0] at h
      exact h
    go_wp2_with fail
    go_ret
    exact mutD_of HC1.out rfl HR1.out (by omega) HB1.out
  obtain ⟨b0, cap1, rfl, hcap1, hcap2, -, hlo0, -, -⟩ := row_slice hks1.1 (by omega) (by omega)
  obtain ⟨KV, hrk⟩ := rowK_of ho1 hks1
  have HRK1 := mkHid hrk
  unfold maxLen at hcap2
  have hGi : ¬ (G.length : Int) = 0 := by omega
  have hGb : ((G.length : Int) == 0) = false := by simpa using hGi
  clear ho1 hks1 hb1 hrk
  go_wp2_with fail
  refine (pick_calls (G.length : Int) _ b p HR1.out (by omega) (by omega)).mono ?_
  rintro e w2 ⟨x, rfl, h0, h1, -, hr2, hb2⟩
  obtain ⟨k, rfl⟩ := Int.eq_ofNat_of_zero_le h0
  have hk : k < G.length := by have := h1 (by omega); omega
  have HR2 := mkHid hr2
  have HB2 : Hid (But b w w2) := HB1.out.trans hb2
  have HRK2 := mkHid (HRK1.out.but hb2 hbw)
  have hs2 : w.heap.size ≤ w2.heap.size := Nat.le_trans hs1 hb2.size
  clear h0 h1 hr2 hb2
  go_wp2_with fail
  refine (pick_calls 24 _ b (p + 1) HR2.out (by omega) (by omega)).mono ?_
  rintro e w3 ⟨z, rfl, -, -, -, hr3, hb3⟩
  have HR3 := mkHid hr3
  have HB3 : Hid (But b w w3) := HB2.out.trans hb3
  have HRK3 := mkHid (HRK2.out.but hb3 hbw)
  have hs3 : w.heap.size ≤ w3.heap.size := Nat.le_trans hs2 hb3.size
  clear hr3 hb3
  by_cases z0 : z = 0
  · subst z0
    go_wp2_with fail
    refine (num_calls [0, 12, 1, 11, 2] (.slice (some ⟨w3.heap.size, 0, none⟩) 5 5) _ b (p + 1 + 1) (HR3.out.next (box_below _ _)) (by omega) (ints_at w3 w3.heap.size rfl b [0, 12, 1, 11, 2] #[.int .i64 0, .int .i64 12, .int .i64 1, .int .i64 11, .int .i64 2] (by omega) rfl (ints_gen [0, 12, 1, 11, 2])) (by simp) (by simp)).mono ?_
    rintro e w4 ⟨y, rfl, hy, hr4, hb4⟩
    have hbb : But b w3 w4 := (But.of_below (box_below _ _)).trans hb4
    have HY := mkHid (rows_i64 hy (by decide))
    have HR4 := mkHid hr4
    have HB4 : Hid (But b w w4) := HB3.out.trans hbb
    have HRK4 := mkHid (HRK3.out.but hbb hbw)
    obtain ⟨c0, c1, c2, cf⟩ := HRK4.out.cell k hk
    have cf0 := cf (k * 3)
    clear hy hr4 hb4 hbb
    go_wp2_with fail
    go_ret
    exact mutD_of (HRK4.out.setOp k hk y HY.out) List.length_set (HR4.out.setCell (by show b < b0; omega) _) (by omega) (HB4.out.setNew (by exact hlo0) _)
  by_cases z1 : z = 1
  · subst z1
    go_wp2_with fail
    refine (num_calls [1000, (-1), 5, 9] (.slice (some ⟨w3.heap.size, 0, none⟩) 4 4) _ b (p + 1 + 1) (HR3.out.next (box_below _ _)) (by omega) (ints_at w3 w3.heap.size rfl b [1000, (-1), 5, 9] #[.int .i64 1000, .int .i64 (-1), .int .i64 5, .int .i64 9] (by omega) rfl (ints_gen [1000, (-1), 5, 9])) (by simp) (by simp)).mono ?_
    rintro e w4 ⟨y, rfl, hy, hr4, hb4⟩
    have hbb : But b w3 w4 := (But.of_below (box_below _ _)).trans hb4
    have HY := mkHid (rows_i64 hy (by decide))
    have HR4 := mkHid hr4
    have HB4 : Hid (But b w w4) := HB3.out.trans hbb
    have HRK4 := mkHid (HRK3.out.but hbb hbw)
    obtain ⟨c0, c1, c2, cf⟩ := HRK4.out.cell k hk
    have cf1 := cf (k * 3 + 1)
    clear hy hr4 hb4 hbb
    go_wp2_with fail
    go_ret
    exact mutD_of (HRK4.out.setNum k hk y HY.out) List.length_set (HR4.out.setCell (by show b < b0; omega) _) (by omega) (HB4.out.setNew (by exact hlo0) _)
  by_cases z2 : z = 2
  · subst z2
    obtain ⟨c0, c1, c2, cf⟩ := HRK3.out.cell k hk
    obtain ⟨adk, capk, hkv⟩ := own_frm (HRK3.out.kid k hk)
    have HKV := mkHid hkv
    rw [hkv] at c2
    have hk3 := (by obtain ⟨defs, hg⟩ := HG.out; exact kid_small hg k hk : G[k].kids.length ≤ 3)
    obtain ⟨n, hn⟩ : ∃ n, n = G[k].kids.length := ⟨_, rfl⟩
    have HNN := mkHid hn
    rw [← hn] at c2 hk3 HKV
    obtain ⟨V, hV⟩ : ∃ V : World, V = (w3.alloc (.cells #[.int .i64 0, .int .i64 1, .int .i64 (-1)] 3)).drew := ⟨_, rfl⟩
    have HV : Hid ((w3.alloc (.cells #[.int .i64 0, .int .i64 1, .int .i64 (-1)] 3)).drew = V) := hV.symm
    have HC : Hid (Calls Try.prog 60 #[.pointer (some ⟨b, 0, none⟩), .slice (some ⟨w3.heap.size, 0, none⟩) 3 3] (w3.alloc (.cells #[.int .i64 0, .int .i64 1, .int .i64 (-1)] 3)).drew (Numbered [0, 1, (-1)] (w3.alloc (.cells #[.int .i64 0, .int .i64 1, .int .i64 (-1)] 3)).drew b (p + 1 + 1))) :=
      num_calls [0, 1, (-1)] (.slice (some ⟨w3.heap.size, 0, none⟩) 3 3) _ b (p + 1 + 1) ((HR3.out.next (box_below _ _)).drew) (by omega) (ints_at w3 w3.heap.size rfl b [0, 1, (-1)] #[.int .i64 0, .int .i64 1, .int .i64 (-1)] (by omega) rfl (ints_gen [0, 1, (-1)])) (by simp) (by simp)
    obtain ⟨iI, zI, hII⟩ := infoI1
    have HII := mkHid hII
    have x1 : w3.drew.cell? ⟨b0, k * 3 + 2, none⟩ = some (.slice adk n capk) := c2
    have x2 := old_cell c2 (.cells #[.int .i64 0, .int .i64 1, .int .i64 (-1)] 3)
    have x3 : (w3.alloc (.cells #[.int .i64 0, .int .i64 1, .int .i64 (-1)] 3)).drew.cell? ⟨b0, k * 3 + 2, none⟩ = some (.slice adk n capk) := x2
    have x4 : (w3.drew.alloc (.cells #[.int .i64 0, .int .i64 1, .int .i64 (-1)] 3)).cell? ⟨b0, k * 3 + 2, none⟩ = some (.slice adk n capk) := x2
    clear c0 c1 cf hkv hn hII hV
    go_wp2_with fail
    go_region_law (first
      | (go_simp; go_at_call 60; go_must (refine HC.out.mono ?_); go_must (rintro e w4 ⟨y, rfl, hy, hr4, hb4⟩); go_must (have hbb : But b w3 w4 := ((But.of_below (box_below _ _)).drew).trans hb4); go_must (have HY := mkHid (rows_i64 hy (by decide))); go_must (have HR4 := mkHid hr4); go_must (have HB4 : Hid (But b w w4) := HB3.out.trans hbb); go_must (have HRK4 := mkHid (HRK3.out.but hbb hbw)); go_must (have d2 := (HRK4.out.cell k hk).2.2.1); go_must (rw [HKV.out] at d2); go_must (have HRK5 := mkHid (HRK4.out.but (But.of_below (b := b) (box_below w4 (.cells #[.int .i64 y] 3))) hbw)); go_must (have HOW : Hid ((w4.alloc (.cells #[.int .i64 y] 3)).ownsRow w.heap.size 3 1 (.slice adk n capk) n (G[k].kids.map fun (a : Int) => Value.int .i64 a)) := (by have h := HRK5.out.kid k hk; rw [HKV.out, ← HNN.out] at h; exact h)); go_must (have HSZ : Hid (w.heap.size ≤ (w4.alloc (.cells #[.int .i64 y] 3)).heap.size) := (by rw [Hid, Deep.nblk_alloc]; have := HB4.out.size; omega)); go_must (have e2 := old_cell d2 (.cells #[.int .i64 y] 3)); clear hy hr4 hb4 hbb)
      | (refine step_append_where rfl (.tmp 45) (.tmp 49) 33 rfl w.heap.size 3 iI zI 1 8 Try.underlying33 HII.out.1 HII.out.2.1 HII.out.2.2.1 HII.out.2.2.2.1 HII.out.2.2.2.2 (by decide) (.slice adk n capk) n (G[k].kids.map fun (a : Int) => Value.int .i64 a) (by simp [Act.eval, Act.put]) HOW.out ⟨w4.heap.size, 0, none⟩ 1 1 [.int .i64 y] (by simp [Act.eval, Act.put]) rfl (newsi w4 y) (by simp [Value.oneCell']) (by unfold maxLen; omega) (by omega) HSZ.out (by omega) ?_; go_must (intro v5 w5 hown hg hw5); go_must (have hg2 : (w4.alloc (.cells #[.int .i64 y] 3)).grownBy w5 (KV k).ownBlock := (by rw [HKV.out]; exact hg)); go_must (have HP := mkHid (HRK5.out.push k hk y v5 (by rw [← HNN.out]; exact hown) hg2)); go_must (have hrow : ∀ q, (Value.slice adk n capk).ownBlock = some q → w.heap.size ≤ q := fun q hq => (own_some HOW.out q hq).1); go_must (have HR5 : Hid (RdOn w5 b (p + 1 + 1 + 1)) := rd_grown (HR4.out.next (box_below _ _)) hg fun q hq => (by have := hrow q hq; omega)); go_must (have HB5 : Hid (But b w w5) := but_grown (HB4.out.trans (But.of_below (box_below _ _))) hg hrow); go_must (have hb5 := HRK5.out.row1 k hk hg2); go_must (have g2 : w5.cell? ⟨b0, k * 3 + 2, none⟩ = some (.slice adk n capk) := (World.cell?_of_block (w := w4.alloc (.cells #[.int .i64 y] 3)) hb5).trans e2); go_must (have gf : w5.frozen? ⟨b0, k * 3 + 2, none⟩ = false := (by obtain ⟨C, hC, -⟩ := HRK5.out.blk; exact frz_of_blk (hb5.trans hC) _)); go_must (obtain ⟨ad5, cap5, rfl⟩ := own_frm hown); clear hown hg hw5 hg2 hrow hb5))
    all_goals
      go_wp2_with fail
      go_ret
      exact mutD_of HP.out List.length_set (HR5.out.setCell (by show b < b0; omega) _) (by omega) (HB5.out.setNew (by exact hlo0) _)
  by_cases z3 : z = 3
  · subst z3
    obtain ⟨c0, c1, c2, cf⟩ := HRK3.out.cell k hk
    have hk3 := (by obtain ⟨defs, hg⟩ := HG.out; exact kid_small hg k hk : G[k].kids.length ≤ 3)
    by_cases hn0 : G[k].kids.length = 0
    · obtain ⟨adk, capk, hkv⟩ := own_frm (HRK3.out.kid k hk)
      rw [hkv, hn0] at c2
      clear c0 c1 cf hkv hk3 hn0
      go_wp2_with fail
      go_ret
      exact mutD_of HRK3.out.cells rfl HR3.out (by omega) HB3.out
    · obtain ⟨kb, capk, hkv, hnc, hcm, hkf, hkl, hkl2, u0, hu0⟩ := row_slice (HRK3.out.kid k hk) (by omega) (by omega)
      have HKV := mkHid hkv
      have HFK : Hid (∀ W, But b w3 W → W.frozen? ⟨kb, 0, none⟩ = false ∧ ∃ u, W.cell? ⟨kb, 0, none⟩ = some u) := fun W hW => by
        have h := (HRK3.out.but hW hbw).kid k hk
        obtain ⟨kb2, capk2, hkv2, -, -, hkf2, -, -, hu2⟩ := row_slice h (by omega) (by omega)
        rw [hkv] at hkv2
        cases hkv2
        exact ⟨hkf2 0, hu2⟩
      rw [hkv] at c2
      obtain ⟨n, hn⟩ : ∃ n, n = G[k].kids.length := ⟨_, rfl⟩
      have HNN := mkHid hn
      rw [← hn] at c2 hk3 HKV hn0
      have hn1 : 0 < n := by omega
      have hn2 : (0 : Int) < (n : Int) := by omega
      have HC : Hid (Calls Try.prog 60 #[.pointer (some ⟨b, 0, none⟩), .slice (some ⟨w3.heap.size, 0, none⟩) 4 4] (w3.alloc (.cells #[.int .i64 0, .int .i64 (-1), .int .i64 400, .int .i64 1] 3)).drew (Numbered [0, (-1), 400, 1] (w3.alloc (.cells #[.int .i64 0, .int .i64 (-1), .int .i64 400, .int .i64 1] 3)).drew b (p + 1 + 1))) :=
        num_calls [0, (-1), 400, 1] (.slice (some ⟨w3.heap.size, 0, none⟩) 4 4) _ b (p + 1 + 1) ((HR3.out.next (box_below _ _)).drew) (by omega) (ints_at w3 w3.heap.size rfl b [0, (-1), 400, 1] #[.int .i64 0, .int .i64 (-1), .int .i64 400, .int .i64 1] (by omega) rfl (ints_gen [0, (-1), 400, 1])) (by simp) (by simp)
      have x1 : w3.drew.cell? ⟨b0, k * 3 + 2, none⟩ = some (.slice (some ⟨kb, 0, none⟩) n capk) := c2
      have x2 := old_cell c2 (.cells #[.int .i64 0, .int .i64 (-1), .int .i64 400, .int .i64 1] 3)
      have x3 : (w3.alloc (.cells #[.int .i64 0, .int .i64 (-1), .int .i64 400, .int .i64 1] 3)).drew.cell? ⟨b0, k * 3 + 2, none⟩ = some (.slice (some ⟨kb, 0, none⟩) n capk) := x2
      have x4 : (w3.drew.alloc (.cells #[.int .i64 0, .int .i64 (-1), .int .i64 400, .int .i64 1] 3)).cell? ⟨b0, k * 3 + 2, none⟩ = some (.slice (some ⟨kb, 0, none⟩) n capk) := x2
      clear c0 c1 cf hkv hn hkf hu0
      go_wp2_with fail
      go_region_with ((go_at_call 60; go_must (refine HC.out.mono ?_); go_must (rintro e w4 ⟨y, rfl, hy, hr4, hb4⟩); go_must (have hbb : But b w3 w4 := ((But.of_below (box_below _ _)).drew).trans hb4); go_must (have HY := mkHid (rows_i64 hy (by decide))); go_must (have HR4 := mkHid hr4); go_must (have HB4 : Hid (But b w w4) := HB3.out.trans hbb); go_must (have HRK4 := mkHid (HRK3.out.but hbb hbw)); go_must (have d2 := (HRK4.out.cell k hk).2.2.1); go_must (rw [HKV.out] at d2); go_must (obtain ⟨df, u4, du⟩ := HFK.out w4 hbb); clear hy hr4 hb4 hbb))
      all_goals
        go_wp2_with fail
        go_ret
        exact mutD_of (HRK4.out.setKid k hk (by rw [← HNN.out]; exact HKV.out) y) List.length_set (HR4.out.setCell (by show b < kb; omega) _) (by omega) (HB4.out.setNew (by exact hkl) _)
  by_cases z4 : z = 4
  · subst z4
    obtain ⟨c0, c1, c2, cf⟩ := HRK3.out.cell k hk
    have HN := mkHid (HRK3.out.setAll k hk hs3)
    have d0 := old_cell c0 (.cells #[.int .i64 (k : Int)] 3)
    have d1 := old_cell c1 (.cells #[.int .i64 (k : Int)] 3)
    have d2 := old_cell c2 (.cells #[.int .i64 (k : Int)] 3)
    have hrk4 := (HRK3.out.but (But.of_below (b := b) (box_below w3 (.cells #[.int .i64 (k : Int)] 3))) hbw).cell k hk
    have df0 := hrk4.2.2.2 (k * 3)
    have df1 := hrk4.2.2.2 (k * 3 + 1)
    have df2 := hrk4.2.2.2 (k * 3 + 2)
    clear c0 c1 c2 cf hrk4
    go_wp2_with fail
    go_ret
    exact mutD_of HN.out List.length_set (((HR3.out.next (box_below _ _)).setCell (by show b < b0; omega) _ |>.setCell (by show b < b0; omega) _).setCell (by show b < b0; omega) _) (by omega) ((((HB3.out.trans (But.of_below (box_below _ _))).setNew (by exact hlo0) _).setNew (by exact hlo0) _).setNew (by exact hlo0) _)
  · have e0 : (z == 0) = false := by simpa using z0
    have e1 : (z == 1) = false := by simpa using z1
    have e2 : (z == 2) = false := by simpa using z2
    have e3 : (z == 3) = false := by simpa using z3
    have e4 : (z == 4) = false := by simpa using z4
    clear z0 z1 z2 z3 z4
    go_wp2_with fail
    go_ret
    exact mutD_of HRK3.out.cells rfl HR3.out (by omega) HB3.out
end Go.Proofs.Ytjdlfpdljmohiaa
/-
  THE MODEL's l3Case, DrawCellsFrom, DrawReadGraph: a program, a graph that may not be valid, a root that may not be one.
-/
namespace Go.Proofs.Ytjdlfpdljmohiaa
set_option linter.unusedVariables false
set_option linter.unusedSimpArgs false
open Go.RowKit

/-- a program, a graph and a root were drawn out of bytes -/
def CaseG (w : World) (e : Ending) (w' : World) : Prop :=
  ∃ ds G pv gv root, e = .returned (.tuple #[pv, gv, .int .i64 root]) ∧ progB ds = true ∧ I64 root ∧ G.length ≤ 250 ∧ DefsOn w' (PN w.heap.size w') ds pv ∧ CellsOn w' (Btw w.heap.size w'.heap.size) G gv ∧ Below w.heap.size w w'
theorem defs_down {w : World} {lo lo' : Nat} {ds : List Df} {v : Value} (h : DefsOn w (PN lo w) ds v) (hl : lo' ≤ lo) : DefsOn w (PN lo' w) ds v := h.mono (fun k hk => hk.go hl rfl) fun _ _ => rfl

set_option maxRecDepth 100000 in
set_option maxHeartbeats 1600000 in
theorem l3Case_calls (len : Nat) (v : Value) (w : World) (h : BytesOn w (Lt w.heap.size) len v) : Calls Try.prog 48 #[v] w (CaseG w) := by
  have H := mkHid h
  obtain ⟨ad, cap, rfl, -, -, -⟩ := h
  go_enter Try.func48, Try.ntmps48
  go_wp2_with fail
  refine (open_calls len _ w H.out).mono ?_
  rintro e w1 ⟨rfl, hr1, hb1⟩
  have HB1 := mkHid hb1
  obtain ⟨b, hbd⟩ : ∃ b, b = w.heap.size := ⟨_, rfl⟩
  have HBD := mkHid hbd
  rw [← hbd] at hr1 ⊢
  have hlt1 := hr1.lt
  have HR1 := mkHid hr1
  clear hb1 hbd hr1
  go_wp2_with fail
  refine (l3Draw_calls w1 b 0 HR1.out (by omega)).mono ?_
  rintro e w2 ⟨ds, G, r, pv, gv, p', rfl, hpr, hgb, hr, hl, hd2, ho2, hr2, hp2, hb2⟩
  have HP := mkHid hpr
  have HG := mkHid hgb
  have hl2 : G.length ≤ 250 := hl
  have HB2 : Hid (Below w.heap.size w w2) := HB1.out.trans (hb2.below (by rw [HBD.out]; exact Nat.le_refl _) HB1.out.size)
  have HD2 := mkHid hd2
  have HO2 := mkHid ho2
  have HR2 := mkHid hr2
  have hs1 : b < w1.heap.size := hlt1
  have hs2 := hb2.size
  obtain ⟨adp, capp, rfl, -, -, -⟩ := id hd2
  obtain ⟨adg, capg, rfl⟩ := ho2.form
  clear hpr hgb hl hd2 ho2 hr2 hb2
  go_wp2_with fail
  refine (pick_calls 12 _ b p' HR2.out (by omega) (by decide)).mono ?_
  rintro e w3 ⟨x, rfl, -, -, -, hr3, hb3⟩
  have HR3 := mkHid hr3
  have HB3 : Hid (Below w.heap.size w w3) := HB2.out.trans (hb3.below (by rw [HBD.out]; exact Nat.le_refl _) HB2.out.size)
  have HD3 := mkHid (defs_but HD2.out hb3 hs1)
  have HO3 := mkHid (HO2.out.but hb3 hs1)
  have hs3 := hb3.size
  clear hr3 hb3
  by_cases hx : x = 0
  · subst hx
    go_wp2_with fail
    refine (num_calls [0, (-1), 400] (.slice (some ⟨w3.heap.size, 0, none⟩) 3 3) _ b (p' + 1) (HR3.out.next (box_below _ _)) (by omega) (ints_at w3 w3.heap.size rfl b [0, (-1), 400] #[.int .i64 0, .int .i64 (-1), .int .i64 400] (by omega) rfl (ints_gen [0, (-1), 400])) (by simp) (by simp)).mono ?_
    rintro e w4 ⟨y, rfl, hy, hr4, hb4⟩
    have hbb : But b w3 w4 := (But.of_below (box_below _ _)).trans hb4
    have HY := mkHid (rows_i64 hy (by decide))
    have HR4 := mkHid hr4
    have HB4 : Hid (Below w.heap.size w w4) := HB3.out.trans (hbb.below (by rw [HBD.out]; exact Nat.le_refl _) HB3.out.size)
    have HD4 := mkHid (defs_but HD3.out hbb hs1)
    have HO4 := mkHid (HO3.out.but hbb hs1)
    have hs4 := hbb.size
    clear hy hr4 hb4 hbb
    go_wp2_with fail
    refine (l3Mutate_calls G _ w4 b (p' + 1 + 1) HR4.out (by omega) HO4.out.cin ⟨_, HG.out⟩ hl2).mono ?_
    rintro e w5 ⟨G', gv', p5, rfl, hc5, hl5, hr5, hp5, hb5⟩
    have HB5 : Hid (Below w.heap.size w w5) := HB4.out.trans (hb5.below (by rw [HBD.out]; exact Nat.le_refl _) HB4.out.size)
    have HD5 := mkHid (defs_but HD4.out hb5 hs1)
    have HC5 : Hid (CellsOn w5 (Btw w.heap.size w5.heap.size) G' gv') := hc5.mono (fun k hk => ⟨by have := hk.1; have := HB4.out.size; omega, hk.2⟩) fun _ _ => rfl
    have hl6 : G'.length ≤ 250 := by omega
    obtain ⟨ad5, cap5, rfl, -, -, -⟩ := id hc5
    clear hc5 hr5 hb5 hl5
    go_wp2_with fail
    exact bodyPost_ret (v := .tuple #[.slice adp ds.length capp, .slice ad5 G'.length cap5, .int .i64 y]) (by simp [results, Try.results48, go_sem]) rfl ⟨ds, G', _, _, y, rfl, HP.out, HY.out, hl6, defs_down HD5.out HB1.out.size, HC5.out, HB5.out⟩
  have hxb : (x == 0) = false := by simpa using hx
  clear hx
  go_wp2_with fail
  refine (l3Mutate_calls G _ w3 b (p' + 1) HR3.out (by omega) HO3.out.cin ⟨_, HG.out⟩ hl2).mono ?_
  rintro e w5 ⟨G', gv', p5, rfl, hc5, hl5, hr5, hp5, hb5⟩
  have HB5 : Hid (Below w.heap.size w w5) := HB3.out.trans (hb5.below (by rw [HBD.out]; exact Nat.le_refl _) HB3.out.size)
  have HD5 := mkHid (defs_but HD3.out hb5 hs1)
  have HC5 : Hid (CellsOn w5 (Btw w.heap.size w5.heap.size) G' gv') := hc5.mono (fun k hk => ⟨by have := hk.1; have := HB3.out.size; omega, hk.2⟩) fun _ _ => rfl
  have hl6 : G'.length ≤ 250 := by omega
  have HRI : Hid (I64 (r : Int)) := by unfold Hid I64; omega
  obtain ⟨ad5, cap5, rfl, -, -, -⟩ := id hc5
  clear hc5 hr5 hb5 hl5
  go_wp2_with fail
  exact bodyPost_ret (v := .tuple #[.slice adp ds.length capp, .slice ad5 G'.length cap5, .int .i64 (r : Int)]) (by simp [results, Try.results48, go_sem]) rfl ⟨ds, G', _, _, r, rfl, HP.out, HRI.out, hl6, defs_down HD5.out HB1.out.size, HC5.out, HB5.out⟩

/-- a graph and a root -/
def DrawnR (w : World) (e : Ending) (w' : World) : Prop := ∃ G gv root, e = .returned (.tuple #[gv, .int .i64 root]) ∧ I64 root ∧ G.length ≤ 250 ∧ CellsOn w' (Btw w.heap.size w'.heap.size) G gv ∧ Below w.heap.size w w'
theorem drawCells_calls (len : Nat) (v : Value) (w : World) (h : BytesOn w (Lt w.heap.size) len v) : Calls Try.prog 20 #[v] w (DrawnR w) := by
  have H := mkHid h
  obtain ⟨ad, cap, rfl, -, -, -⟩ := h
  go_enter Try.func20, Try.ntmps20
  go_wp2_with fail
  refine (l3Case_calls len _ w H.out).mono ?_
  rintro e w1 ⟨ds, G, pv, gv, root, rfl, -, hi, hl, hd, hc, hb⟩
  have HD := mkHid (And.intro hi (And.intro hl (And.intro hc hb)))
  obtain ⟨adp, capp, rfl, -, -, -⟩ := hd
  obtain ⟨adg, capg, rfl, -, -, -⟩ := hc
  clear hb hi hl
  go_wp2_with fail
  exact bodyPost_ret (v := .tuple #[.slice adg G.length capg, .int .i64 root]) (by simp [results, Try.results20, go_sem]) rfl ⟨G, _, root, rfl, HD.out.1, HD.out.2.1, HD.out.2.2.1, HD.out.2.2.2⟩
theorem drawFollow_calls (len : Nat) (v : Value) (w : World) (h : BytesOn w (Lt w.heap.size) len v) : Calls Try.prog 13 #[v] w (DrawnR w) := by
  have H := mkHid h
  obtain ⟨ad, cap, rfl, -, -, -⟩ := h
  go_enter Try.func13, Try.ntmps13
  go_wp2_with fail
  refine (drawCells_calls len _ w H.out).mono ?_
  rintro e w1 ⟨G, gv, root, rfl, hi, hl, hc, hb⟩
  have HD := mkHid (And.intro hi (And.intro hl (And.intro hc hb)))
  obtain ⟨adg, capg, rfl, -, -, -⟩ := hc
  clear hb hi hl
  go_wp2_with fail
  exact bodyPost_ret (v := .tuple #[.slice adg G.length capg, .int .i64 root]) (by simp [results, Try.results13, go_sem]) rfl ⟨G, _, root, rfl, HD.out.1, HD.out.2.1, HD.out.2.2.1, HD.out.2.2.2⟩
theorem drawShared_calls (len : Nat) (v : Value) (w : World) (h : BytesOn w (Lt w.heap.size) len v) : Calls Try.prog 29 #[v] w (DrawnR w) := by
  have H := mkHid h
  obtain ⟨ad, cap, rfl, -, -, -⟩ := h
  go_enter Try.func29, Try.ntmps29
  go_wp2_with fail
  refine (drawCells_calls len _ w H.out).mono ?_
  rintro e w1 ⟨G, gv, root, rfl, hi, hl, hc, hb⟩
  have HD := mkHid (And.intro hi (And.intro hl (And.intro hc hb)))
  obtain ⟨adg, capg, rfl, -, -, -⟩ := hc
  clear hb hi hl
  go_wp2_with fail
  exact bodyPost_ret (v := .tuple #[.slice adg G.length capg, .int .i64 root]) (by simp [results, Try.results29, go_sem]) rfl ⟨G, _, root, rfl, HD.out.1, HD.out.2.1, HD.out.2.2.1, HD.out.2.2.2⟩
theorem drawSpine_calls (len : Nat) (v : Value) (w : World) (h : BytesOn w (Lt w.heap.size) len v) : Calls Try.prog 38 #[v] w (DrawnR w) := by
  have H := mkHid h
  obtain ⟨ad, cap, rfl, -, -, -⟩ := h
  go_enter Try.func38, Try.ntmps38
  go_wp2_with fail
  refine (drawCells_calls len _ w H.out).mono ?_
  rintro e w1 ⟨G, gv, root, rfl, hi, hl, hc, hb⟩
  have HD := mkHid (And.intro hi (And.intro hl (And.intro hc hb)))
  obtain ⟨adg, capg, rfl, -, -, -⟩ := hc
  clear hb hi hl
  go_wp2_with fail
  exact bodyPost_ret (v := .tuple #[.slice adg G.length capg, .int .i64 root]) (by simp [results, Try.results38, go_sem]) rfl ⟨G, _, root, rfl, HD.out.1, HD.out.2.1, HD.out.2.2.1, HD.out.2.2.2⟩
/-- a graph, a root and the number of functions -/
def DrawnF (w : World) (e : Ending) (w' : World) : Prop := ∃ G gv root n, e = .returned (.tuple #[gv, .int .i64 root, .int .i64 ((n : Nat) : Int)]) ∧ I64 root ∧ n ≤ 6 ∧ G.length ≤ 250 ∧ CellsOn w' (Btw w.heap.size w'.heap.size) G gv ∧ Below w.heap.size w w'
theorem drawRead_calls (len : Nat) (v : Value) (w : World) (h : BytesOn w (Lt w.heap.size) len v) : Calls Try.prog 23 #[v] w (DrawnF w) := by
  have H := mkHid h
  obtain ⟨ad, cap, rfl, -, -, -⟩ := h
  go_enter Try.func23, Try.ntmps23
  go_wp2_with fail
  refine (l3Case_calls len _ w H.out).mono ?_
  rintro e w1 ⟨ds, G, pv, gv, root, rfl, hp, hi, hl, hd, hc, hb⟩
  have hn6 : ds.length ≤ 6 := by
    have h := hp
    unfold progB at h
    simp only [Bool.and_eq_true, decide_eq_true_eq] at h
    exact h.1
  have HD := mkHid (And.intro hi (And.intro hl (And.intro hc (And.intro hn6 hb))))
  obtain ⟨adp, capp, rfl, -, -, -⟩ := hd
  obtain ⟨adg, capg, rfl, -, -, -⟩ := hc
  clear hb hi hl hp
  go_wp2_with fail
  exact bodyPost_ret (v := .tuple #[.slice adg G.length capg, .int .i64 root, .int .i64 (ds.length : Int)]) (by simp [results, Try.results23, go_sem]) rfl ⟨G, _, root, ds.length, rfl, HD.out.1, HD.out.2.2.2.1, HD.out.2.1, HD.out.2.2.1, HD.out.2.2.2.2⟩
end Go.Proofs.Ytjdlfpdljmohiaa
/-
  PLAIN: the expression for which a cell stands, read with a budget of nodes and of depth. No program is named here.
-/
namespace Go.Proofs.Ytjdlfpdljmohiaa
set_option linter.unusedVariables false
set_option linter.unusedSimpArgs false

/-- the trees of a list of cells, one behind the other, with what is left of the budget -/
def readKids (f : Nat → Nat → Option (Tr × Nat)) : List Nat → Nat → Option (List Tr × Nat)
  | [], l => some ([], l)
  | k :: ks, l => match f k l with
    | none => none
    | some (t, l') => match readKids f ks l' with
      | none => none
      | some (ts, l'') => some (t :: ts, l'')
def readT (g : List Ce) : Nat → Nat → Nat → Option (Tr × Nat)
  | 0, _, _ => none
  | d + 1, a, l => match followN g g.length a with
    | none => none
    | some b => match l with
      | 0 => none
      | l + 1 => match readKids (readT g d) (kidsN g b) l with
        | none => none
        | some (ts, l') => some (.node (g.getD b ⟨0, 0, []⟩).op (g.getD b ⟨0, 0, []⟩).num ts, l')
theorem readKids_snoc (f : Nat → Nat → Option (Tr × Nat)) : ∀ (ks : List Nat) (k l : Nat), readKids f (ks ++ [k]) l = match readKids f ks l with
    | none => none
    | some (ts, l') => match f k l' with
      | none => none
      | some (t, l'') => some (ts ++ [t], l'')
  | [], k, l => by
    simp only [List.nil_append, readKids]
  | x :: ks, k, l => by
    simp only [List.cons_append, readKids]
    cases f x l with
    | none => rfl
    | some p =>
      obtain ⟨t, l'⟩ := p
      simp only [readKids_snoc f ks k l']
      cases readKids f ks l' with
      | none => rfl
      | some q =>
        obtain ⟨ts, l2⟩ := q
        simp only
        cases f k l2 with
        | none => rfl
        | some r => obtain ⟨t2, l3⟩ := r; rfl
theorem readKids_some_snoc {f : Nat → Nat → Option (Tr × Nat)} {ks : List Nat} {k l l' l'' : Nat} {ts : List Tr} {t : Tr} (h : readKids f ks l = some (ts, l')) (h' : f k l' = some (t, l'')) : readKids f (ks ++ [k]) l = some (ts ++ [t], l'') := by
  rw [readKids_snoc, h]; simp only [h']
theorem readKids_none_snoc {f : Nat → Nat → Option (Tr × Nat)} {ks : List Nat} {k l l' : Nat} {ts : List Tr} (h : readKids f ks l = some (ts, l')) (h' : f k l' = none) : readKids f (ks ++ [k]) l = none := by
  rw [readKids_snoc, h]; simp only [h']
theorem readKids_none_append {f : Nat → Nat → Option (Tr × Nat)} : ∀ (ks js : List Nat) (l : Nat), readKids f ks l = none → readKids f (ks ++ js) l = none
  | [], _, _, h => by simp [readKids] at h
  | x :: ks, js, l, h => by
    simp only [List.cons_append, readKids] at h ⊢
    cases hx : f x l with
    | none => rfl
    | some p =>
      obtain ⟨t, l'⟩ := p
      rw [hx] at h
      simp only at h ⊢
      cases hk : readKids f ks l' with
      | none => rw [readKids_none_append ks js l' hk]
      | some q => rw [hk] at h; simp at h
theorem readKids_none_take {f : Nat → Nat → Option (Tr × Nat)} {ks : List Nat} {j l : Nat} (h : readKids f (ks.take j) l = none) : readKids f ks l = none := by
  have := readKids_none_append (ks.take j) (ks.drop j) l h
  rwa [List.take_append_drop] at this
theorem readKids_len {f : Nat → Nat → Option (Tr × Nat)} : ∀ (ks : List Nat) (l : Nat) (ts : List Tr) (l' : Nat), readKids f ks l = some (ts, l') → ts.length = ks.length
  | [], _, _, _, h => by simp [readKids] at h; obtain ⟨rfl, -⟩ := h; rfl
  | x :: ks, l, ts, l', h => by
    simp only [readKids] at h
    cases hx : f x l with
    | none => rw [hx] at h; simp at h
    | some p =>
      obtain ⟨t, l1⟩ := p
      rw [hx] at h
      simp only at h
      cases hk : readKids f ks l1 with
      | none => rw [hk] at h; simp at h
      | some q =>
        obtain ⟨us, l2⟩ := q
        rw [hk] at h
        simp only [Option.some.injEq, Prod.mk.injEq] at h
        obtain ⟨rfl, -⟩ := h
        simp [readKids_len ks l1 us l2 hk]
theorem readKids_left {f : Nat → Nat → Option (Tr × Nat)} (hf : ∀ k l t l', f k l = some (t, l') → l' ≤ l) : ∀ (ks : List Nat) (l : Nat) (ts : List Tr) (l' : Nat), readKids f ks l = some (ts, l') → l' ≤ l
  | [], _, _, _, h => by simp [readKids] at h; omega
  | x :: ks, l, ts, l', h => by
    simp only [readKids] at h
    cases hx : f x l with
    | none => rw [hx] at h; simp at h
    | some p =>
      obtain ⟨t, l1⟩ := p
      rw [hx] at h
      simp only at h
      cases hk : readKids f ks l1 with
      | none => rw [hk] at h; simp at h
      | some q =>
        obtain ⟨us, l2⟩ := q
        rw [hk] at h
        simp only [Option.some.injEq, Prod.mk.injEq] at h
        have := hf x l t l1 hx
        have := readKids_left hf ks l1 us l2 hk
        omega
theorem readT_left (g : List Ce) : ∀ (d a l : Nat) (t : Tr) (l' : Nat), readT g d a l = some (t, l') → l' ≤ l
  | 0, _, _, _, _, h => by simp [readT] at h
  | d + 1, a, l, t, l', h => by
    unfold readT at h
    cases hf : followN g g.length a with
    | none => rw [hf] at h; simp at h
    | some b =>
      rw [hf] at h
      cases l with
      | zero => simp at h
      | succ l =>
        simp only at h
        cases hk : readKids (readT g d) (kidsN g b) l with
        | none => rw [hk] at h; simp at h
        | some q =>
          obtain ⟨ts, l2⟩ := q
          rw [hk] at h
          simp only [Option.some.injEq, Prod.mk.injEq] at h
          have := readKids_left (fun k l t l' => readT_left g d k l t l') (kidsN g b) l ts l2 hk
          omega
theorem readT_fol {g : List Ce} {d a l : Nat} (h : followN g g.length a = none) : readT g (d + 1) a l = none := by unfold readT; rw [h]
theorem readT_zero {g : List Ce} {d a : Nat} : readT g (d + 1) a 0 = none := by unfold readT; cases followN g g.length a <;> rfl
theorem readT_bad {g : List Ce} {d a b l : Nat} (h : followN g g.length a = some b) (hk : readKids (readT g d) (kidsN g b) l = none) : readT g (d + 1) a (l + 1) = none := by unfold readT; rw [h]; simp only [hk]
theorem readT_ok {g : List Ce} {d a b l l' : Nat} {ts : List Tr} (hb : b < g.length) (h : followN g g.length a = some b) (hk : readKids (readT g d) (kidsN g b) l = some (ts, l')) : readT g (d + 1) a (l + 1) = some (.node g[b].op g[b].num ts, l') := by
  unfold readT; rw [h]; simp only [hk, getD_at _ _ _ hb]
theorem readKids_sz {f : Nat → Nat → Option (Tr × Nat)} (hf : ∀ k l t l', f k l = some (t, l') → l' + 1 + szT t ≤ l) : ∀ (ks : List Nat) (l : Nat) (ts : List Tr) (l' : Nat), readKids f ks l = some (ts, l') → l' + szL ts ≤ l
  | [], _, _, _, h => by simp [readKids] at h; obtain ⟨rfl, rfl⟩ := h; simp [szL]
  | x :: ks, l, ts, l', h => by
    simp only [readKids] at h
    cases hx : f x l with
    | none => rw [hx] at h; simp at h
    | some p =>
      obtain ⟨t, l1⟩ := p
      rw [hx] at h
      simp only at h
      cases hk : readKids f ks l1 with
      | none => rw [hk] at h; simp at h
      | some q =>
        obtain ⟨us, l2⟩ := q
        rw [hk] at h
        simp only [Option.some.injEq, Prod.mk.injEq] at h
        obtain ⟨rfl, rfl⟩ := h
        have := hf x l t l1 hx
        have := readKids_sz hf ks l1 us l2 hk
        simp only [szL]
        omega
theorem readT_sz (g : List Ce) : ∀ (d a l : Nat) (t : Tr) (l' : Nat), readT g d a l = some (t, l') → l' + 1 + szT t ≤ l
  | 0, _, _, _, _, h => by simp [readT] at h
  | d + 1, a, l, t, l', h => by
    unfold readT at h
    cases hf : followN g g.length a with
    | none => rw [hf] at h; simp at h
    | some b =>
      rw [hf] at h
      cases l with
      | zero => simp at h
      | succ l =>
        simp only at h
        cases hk : readKids (readT g d) (kidsN g b) l with
        | none => rw [hk] at h; simp at h
        | some q =>
          obtain ⟨ts, l2⟩ := q
          rw [hk] at h
          simp only [Option.some.injEq, Prod.mk.injEq] at h
          obtain ⟨rfl, rfl⟩ := h
          have := readKids_sz (fun k l t l' => readT_sz g d k l t l') (kidsN g b) l ts l2 hk
          rw [szT_eq]
          simp only [Tr.kids_node]
          omega
end Go.Proofs.Ytjdlfpdljmohiaa
/-
  WHAT ReadGraph ANSWERS, plainly.
-/
namespace Go.Proofs.Ytjdlfpdljmohiaa
set_option linter.unusedVariables false
set_option linter.unusedSimpArgs false
open Go.RowKit

/-- what ReadGraph answers -/
def readB (g : List Ce) (root defs : Int) : Option Tr := if graphB g defs = true ∧ isAt g.length root = true then (readT g 16 root.toNat 60).map (·.1) else none
/-- an expression in new memory, all blocks distinct, and whether there is one -/
def ReadOut (o : Option Tr) (w : World) (e : Ending) (w' : World) : Prop :=
  match o with
  | none => e = .returned (.tuple #[.agg #[.int .i64 0, .int .i64 0, .slice none 0 0], .bool false]) ∧ Below w.heap.size w w'
  | some t => ∃ v, e = .returned (.tuple #[.agg #[.int .i64 t.op, .int .i64 t.num, v], .bool true]) ∧ Fresh w' w.heap.size t.kids v ∧ I64 t.op ∧ I64 t.num ∧ Below w.heap.size w w'
theorem graphB_six {g : List Ce} {defs : Int} (h : graphB g defs = true) : graphB g 6 = true := by
  unfold graphB at h ⊢
  simp only [Bool.and_eq_true, decide_eq_true_eq, List.all_eq_true] at h ⊢
  obtain ⟨h1, h2⟩ := h
  refine ⟨by omega, fun c hc => ?_⟩
  have h3 := h2 c hc
  unfold cellB fitsB at h3 ⊢
  simp only [Bool.and_eq_true] at h3 ⊢
  refine ⟨⟨h3.1.1, ?_⟩, h3.2⟩
  have h4 := h3.1.2
  unfold ownB at h4 ⊢
  by_cases e1 : c.op = 1
  · rw [if_pos e1] at h4 ⊢; exact h4
  rw [if_neg e1] at h4 ⊢
  by_cases e2 : c.op = 2
  · rw [if_pos e2] at h4 ⊢; exact h4
  rw [if_neg e2] at h4 ⊢
  by_cases e3 : c.op = 3
  · rw [if_pos e3] at h4 ⊢; simp at h4 ⊢; omega
  rw [if_neg e3] at h4 ⊢; exact h4
theorem readB_no {g : List Ce} {root defs : Int} (h : ¬ (graphB g defs = true ∧ isAt g.length root = true)) : readB g root defs = none := by unfold readB; rw [if_neg h]
theorem readB_yes {g : List Ce} {root defs : Int} (h : graphB g defs = true ∧ isAt g.length root = true) : readB g root defs = (readT g 16 root.toNat 60).map (·.1) := by unfold readB; rw [if_pos h]

/-- the result's box is written: another block stays -/
theorem box_stay {w : World} {R B : Nat} {x y z : Value} {o : Obj} (h : w.heap[R]? = some o) (hne : R ≠ B) : (((w.setCell ⟨B, 0, none⟩ x).setCell ⟨B, 1, none⟩ y).setCell ⟨B, 2, none⟩ z).heap[R]? = some o := by
  rw [Below.heap_setCell _ _ _ _ (by show R ≠ B; exact hne), Below.heap_setCell _ _ _ _ (by show R ≠ B; exact hne), Below.heap_setCell _ _ _ _ (by show R ≠ B; exact hne)]
  exact h
theorem box_but {fp : List Nat} {w w1 : World} {x y z : Value} (h : Below w.heap.size w w1) : ButL fp w (((w1.setCell ⟨w.heap.size, 0, none⟩ x).setCell ⟨w.heap.size, 1, none⟩ y).setCell ⟨w.heap.size, 2, none⟩ z) :=
  ButL.of_below (((h.setCell (Nat.le_refl _) _).setCell (Nat.le_refl _) _).setCell (Nat.le_refl _) _)

theorem readB_sz (g : List Ce) (root defs : Int) : ∀ t, readB g root defs = some t → szT t ≤ 60 := by
  intro t h
  unfold readB at h
  split at h
  · cases hr : readT g 16 root.toNat 60 with
    | none => rw [hr] at h; simp at h
    | some q =>
      obtain ⟨t', l⟩ := q
      rw [hr] at h
      simp only [Option.map_some, Option.some.injEq] at h
      subst h
      have := readT_sz g 16 _ _ _ _ hr
      omega
  · simp at h
theorem fresh_shape {w : World} {lo : Nat} {ks : List Tr} {v : Value} (h : Fresh w lo ks v) : ∃ ad cap, v = .slice ad ks.length cap := by
  obtain ⟨ad, cap, e, -⟩ := h.on
  exact ⟨ad, cap, e⟩
theorem fresh_nil (w : World) (lo : Nat) : Fresh w lo [] (.slice none 0 0) := (OwnF.nil w lo lo).fresh
/-- both ways in one form -/
theorem readOut_one (o : Option Tr) (hs : ∀ t, o = some t → szT t ≤ 60) : ∃ (t : Tr) (b : Bool), szL t.kids ≤ 60 ∧ ∀ (W : World) (en : Ending) (w' : World), ReadOut o W en w' → ∃ v, en = .returned (.tuple #[.agg #[.int .i64 t.op, .int .i64 t.num, v], .bool b]) ∧ Fresh w' W.heap.size t.kids v ∧ Below W.heap.size W w' := by
  cases o with
  | none => exact ⟨.node 0 0 [], false, by simp [szL], fun W en w' h => ⟨_, h.1, fresh_nil _ _, h.2⟩⟩
  | some t => exact ⟨t, true, by rw [← szT_eq]; exact hs t rfl, fun W en w' h => by obtain ⟨v, h1, h2, -, -, h3⟩ := h; exact ⟨v, h1, h2, h3⟩⟩
end Go.Proofs.Ytjdlfpdljmohiaa
/-
  PLAIN: a cell and the cell for which it stands are read as the same; it can be reached.
-/
namespace Go.Proofs.Ytjdlfpdljmohiaa
set_option linter.unusedVariables false
set_option linter.unusedSimpArgs false
open Go.RowKit

theorem reach_trans {g : List Ce} {a b c : Nat} (h1 : Reach g a b) (h2 : Reach g b c) : Reach g a c := by
  induction h2 with
  | root => exact h1
  | kid x k _ hk ih => exact .kid x k ih hk
theorem follow_reach {g : List Ce} {defs : Int} (hg : graphB g defs = true) : ∀ (n a b : Nat), a < g.length → followN g n a = some b → Reach g a b
  | 0, a, b, _, h => by simp [followN] at h
  | n + 1, a, b, ha, h => by
    unfold followN at h
    split at h
    · rename_i ho
      have ho' : g[a].op = 11 := by unfold opAt at ho; rwa [getD_at _ _ _ ha] at ho
      obtain ⟨k, hk1, hk2, hk3⟩ := ind_kid hg a ha ho'
      rw [hk3] at h
      have h5 := follow_reach hg n k b hk2 h
      refine reach_trans (.kid a k .root ?_) h5
      rw [kidsN_at a ha, hk1]
      simp
    · simp only [Option.some.injEq] at h
      subst h
      exact .root
theorem fol_self {g : List Ce} {b : Nat} (hb : b < g.length) (ho : opAt g b ≠ 11) : followN g g.length b = some b := by
  obtain ⟨m, hm⟩ : ∃ m, g.length = m + 1 := ⟨g.length - 1, by omega⟩
  rw [hm]
  unfold followN
  rw [if_neg ho]
/-- what FollowInd finds -/
theorem fol_facts {g : List Ce} {a : Int} {b : Nat} (h : followB g a = some b) : graphB g 6 = true ∧ 0 ≤ a ∧ a < g.length ∧ b < g.length ∧ opAt g b ≠ 11 ∧ Reach g a.toNat b ∧ readB g a 6 = readB g (b : Int) 6 := by
  unfold followB at h
  split at h
  · rename_i hc
    obtain ⟨hg, h0, h1⟩ := hc
    have ha : a.toNat < g.length := by omega
    obtain ⟨hb, ho⟩ := followN_lt hg _ _ _ ha h
    refine ⟨hg, h0, h1, hb, ho, follow_reach hg _ _ _ ha h, ?_⟩
    have e1 : isAt g.length a = true := by unfold isAt; simp; omega
    have e2 : isAt g.length (b : Int) = true := by unfold isAt; simp; omega
    rw [readB_yes ⟨hg, e1⟩, readB_yes ⟨hg, e2⟩, Int.toNat_natCast]
    congr 1
    unfold readT
    rw [h, fol_self hb ho]
  · cases h
end Go.Proofs.Ytjdlfpdljmohiaa
/-
  PLAIN: the places that are set, in order.
-/
namespace Go.Proofs.Ytjdlfpdljmohiaa
set_option linter.unusedVariables false
set_option linter.unusedSimpArgs false

theorem numsN_mem (f : Nat → Bool) : ∀ n a, a ∈ numsN f n ↔ a < n ∧ f a = true
  | 0, a => by simp [numsN]
  | n + 1, a => by
    cases h : f n with
    | true =>
      rw [numsN_yes h, List.mem_append, numsN_mem f n a, List.mem_singleton]
      constructor
      · rintro (⟨h1, h2⟩ | rfl)
        · exact ⟨by omega, h2⟩
        · exact ⟨by omega, h⟩
      · rintro ⟨h1, h2⟩
        by_cases e : a = n
        · exact Or.inr e
        · exact Or.inl ⟨by omega, h2⟩
    | false =>
      rw [numsN_no h, numsN_mem f n a]
      constructor
      · rintro ⟨h1, h2⟩
        exact ⟨by omega, h2⟩
      · rintro ⟨h1, h2⟩
        refine ⟨?_, h2⟩
        by_cases e : a = n
        · subst e; rw [h] at h2; cases h2
        · omega
theorem numsN_sorted (f : Nat → Bool) : ∀ n, (numsN f n).Pairwise (· < ·)
  | 0 => by simp [numsN]
  | n + 1 => by
    cases h : f n with
    | true =>
      rw [numsN_yes h, List.pairwise_append]
      refine ⟨numsN_sorted f n, by simp, fun a ha b hb => ?_⟩
      rw [List.mem_singleton] at hb
      subst hb
      exact ((numsN_mem f _ a).1 ha).1
    | false => rw [numsN_no h]; exact numsN_sorted f n
theorem numsTo_mem (f : Nat → Bool) (n : Nat) (x : Int) : x ∈ numsTo f n ↔ ∃ a : Nat, x = (a : Int) ∧ a < n ∧ f a = true := by
  unfold numsTo
  rw [List.mem_map]
  constructor
  · rintro ⟨a, ha, rfl⟩
    exact ⟨a, rfl, (numsN_mem f n a).1 ha⟩
  · rintro ⟨a, rfl, ha⟩
    exact ⟨a, (numsN_mem f n a).2 ha, rfl⟩
theorem numsTo_lt (f : Nat → Bool) (n i j : Nat) (hj : j < (numsTo f n).length) (hij : i < j) : (numsTo f n)[i]'(by omega) < (numsTo f n)[j] := by
  have h := List.pairwise_iff_getElem.1 (numsN_sorted f n)
  unfold numsTo at hj ⊢
  rw [List.length_map] at hj
  simp only [List.getElem_map]
  have := h i j (by omega) hj hij
  omega
end Go.Proofs.Ytjdlfpdljmohiaa
