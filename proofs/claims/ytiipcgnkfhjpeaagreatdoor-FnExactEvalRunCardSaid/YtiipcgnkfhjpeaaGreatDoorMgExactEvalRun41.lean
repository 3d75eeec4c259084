/-
  THE PROGRAM's selectParts: the walk.
-/
import Derived.Test.YtiipcgnkfhjpeaaGreatDoorMgExactEvalRun40
import Derived.Test.YtiipcgnkfhjpeaaGreatDoorMgExactEvalRun38
namespace Go.Proofs.YtiipcgnkfhjpeaaGreatDoor
set_option linter.unusedVariables false
set_option linter.unusedSimpArgs false
open Go.RowKit Go.Maps

theorem OwnC.lower2 {w : World} {lo lo' : Nat} {S S' : Nat → Prop} {g : List Ce} {v : Value} (h : OwnC w lo S g v) (hl : lo' ≤ lo) (hS : ∀ b, S b → S' b) : OwnC w lo' S' g v := by
  obtain ⟨h0, xs, kb, h1, h2, h3⟩ := h
  refine ⟨h0, xs, kb, ⟨h1.1, ?_⟩, fun j hj => ?_, h3⟩
  · rcases h1.2 with h | ⟨b, cap, cur, rfl, hg, r⟩
    · exact Or.inl h
    · exact Or.inr ⟨b, cap, cur, rfl, Nat.le_trans hl hg, r⟩
  · obtain ⟨kv, e0, e1, e2, e3⟩ := h2 j hj
    exact ⟨kv, e0, e1, e2, e3.keep (fun k hk _ => hS k hk) fun _ _ _ _ => rfl⟩
theorem len_one_le (l : List Nat) (i : Nat) {n : Nat} (h : l.length ≤ n) (hn : n ≤ 200000) : l.length + [i].length ≤ 1048576 := by simp only [List.length_cons, List.length_nil]; omega
theorem len_one_le2 (l : List Nat) (i : Nat) {n : Nat} (h : l.length ≤ n) : (l ++ [i]).length ≤ n + 1 := by rw [List.length_append]; simp only [List.length_cons, List.length_nil]; omega
theorem snoc_ne (l : List Nat) (i : Nat) : l ++ [i] ≠ [] := by simp
set_option maxRecDepth 100000 in
set_option maxHeartbeats 25600000 in
theorem selectParts_calls (A lo : Nat) (g : List Ce) (gv0 : Value) (w : World) (hA : w.heap[A]? = some (.cells #[gv0] 142)) (hO : OwnC w lo (fun b => lo ≤ b) g gv0) (hla : lo ≤ A) (hlo : lo ≤ w.heap.size) (hg : graphB g 6 = true) :
    Calls Tryz.prog 116 #[.pointer (some ⟨A, 0, none⟩)] w (SelDone A lo (selRes g) w) := by
  have HG := mkHid hg
  have h400 : g.length ≤ 400 := graphB_len hg
  have hmm := @run_makeMap Tryz.prog
  have HA := mkHid hA
  have HO := mkHid hO
  have hA1 : (w.alloc (.map #[] 0)).heap[A]? = some (.cells #[gv0] 142) := (Deep.blk_alloc_lt _ _ _ (Array.getElem?_eq_some_iff.1 hA).1).trans hA
  have HA1 := mkHid hA1
  have HC1 := mkHid (((hO.own fun k h _ => h).inn).next (box_below w (.map #[] 0)))
  clear hA hO hg hA1
  go_enter Tryz.func116, Tryz.ntmps116
  go_wp2_with fail
  refine (selections_calls A g _ _ HA1.out HC1.out h400).mono ?_
  rintro e w2 ⟨wv0, rfl, hst, hb2⟩
  have HST := mkHid (sp_start HA.out HO.out hla hlo HG.out hst hb2)
  clear hst hb2
  go_wp2_with fail
  go_loopw [3, 5] (fun z pv wr => ∃ (m n : Nat) (work : List Nat) (wt : Nat → List Nat) (G : List Ce) (S : Nat → Prop) (gv : Value), z = .int .i64 m ∧ SpR A w.heap.size lo g w m n work wt G S gv pv wr) (fun z pv _ => selLeft g (intOf z).toNat (slLenS pv))
  case atStart =>
    obtain ⟨S, h⟩ := HST.out
    exact ⟨0, 0, _, _, g, S, _, rfl, h⟩
  case round =>
    obtain ⟨m, n, work, wt, G, S, gv, rfl, hr⟩ := hrel
    have HR := mkHid hr
    have hml := sel_le HG.out hr.rel
    have HINV := mkHid (selR_inv HG.out hr.rel)
    have hwl := hr.wl.len
    have hG400 : G.length ≤ 400 := by rw [HINV.out.len]; exact h400
    have hnn : n ≤ 200000 := by have := hr.num; omega
    have HLW : Hid (lo ≤ wr.heap.size) := Nat.le_trans hlo (by have := hr.bel.size; exact this)
    by_cases hlt : 0 < work.length
    · obtain ⟨rest, i, rfl⟩ := split_last work hlt
      obtain ⟨gb, cw, rfl, hc1, hc2, dw, hp⟩ := hr.mem.pop
      have HP := mkHid hp
      obtain ⟨p1, p2, p3⟩ := hr.wl.pop_mem
      have hil := isSel_lt p1
      obtain ⟨adg, capg, rfl⟩ := hr.mem.own.form
      obtain ⟨b, rfl, -, -, -⟩ := hr.mem.own.blkW (by omega)
      have hC := (hr.mem.own.own fun k hk _ => (hr.mem.sl k hk).1).inn
      have HC := mkHid hC
      have hs67 : G[i].op = 6 ∨ G[i].op = 7 := by unfold isSel at p1; rw [opAt_at i hil] at p1; exact p1
      have HS67 := mkHid hs67
      have HP1 := mkHid p1
      have hk1 := sel_kids HINV.out.ok hil hs67
      obtain ⟨bl, off, r, e, c0, c1, c2, -, -, hkk⟩ := hC.at i hil
      cases e
      simp only [Nat.zero_add] at c0 c1 c2
      obtain ⟨hke, hkl⟩ := kidAt_get HINV.out.ok i hil 0 (by omega)
      obtain ⟨adk, capk, rfl, -, -, -⟩ := id hkk
      obtain ⟨bk, ok, rfl, d0⟩ := hkk.at 0 (by omega)
      rw [hke, Nat.add_zero] at d0
      obtain ⟨x, hx⟩ : ∃ x, x = kidAt G i 0 := ⟨_, rfl⟩
      have HX := mkHid hx
      rw [← hx] at d0 hkl
      have hk0I : (0 : Int) < (G[i].kids.length : Int) := by omega
      have hk0N : 0 < G[i].kids.length := by omega
      have hiI : (i : Int) < (G.length : Int) := by omega
      have a0 := cell_of_blk hr.mem.box 0 _ rfl
      obtain ⟨wx, hwx⟩ : ∃ wx : World, wx = wr.alloc (.cells #[.int .i64 G[i].op, .int .i64 G[i].num, .slice (some ⟨bk, ok, none⟩) G[i].kids.length capk] 93) := ⟨_, rfl⟩
      have HWX := mkHid hwx
      have hbx : Below wr.heap.size wr wx := by rw [hwx]; exact box_below _ _
      have HBX := mkHid hbx
      have HZX : Hid (wr.heap.size < wx.heap.size) := by rw [Hid, hwx, Deep.nblk_alloc]; omega
      have HXB : Hid (wx.heap[wr.heap.size]? = some (.cells #[.int .i64 G[i].op, .int .i64 G[i].num, .slice (some ⟨bk, ok, none⟩) G[i].kids.length capk] 93)) := by rw [Hid, hwx]; exact Deep.blk_alloc_new _ _
      have aa := (hbx.cell (p := ⟨A, 0, none⟩) (cell_lt a0)).trans a0
      have dd := (hbx.cell (p := ⟨bk, ok, none⟩) (cell_lt d0)).trans d0
      have x2 := cell_of_blk HXB.out 2 _ rfl
      obtain ⟨fo, hfo⟩ : ∃ fo, fo = followN G G.length x := ⟨_, rfl⟩
      have HFO := mkHid hfo
      have HCALL : Hid (Calls Tryz.prog 114 #[.slice (some ⟨b, 0, none⟩) G.length capg, .int .i64 (x : Int)] wx.drew (fun e w' => e = .returned (.tuple #[.int .i64 (folO fo), .bool fo.isSome]) ∧ Below wx.heap.size wx w')) := by
        rw [hfo]
        exact (standsFor_calls G x _ _ ((HC.out.next hbx).drew) ⟨6, HINV.out.ok⟩ hkl).mono fun e w' h => ⟨h.1, ((Below.refl _ _).drew).trans h.2⟩
      simp only [List.length_append, List.length_cons, List.length_nil, Nat.zero_add] at hwl hlt
      unfold maxLen at hc2
      clear hr hp p1 p2 p3 hC hs67 hkk hke hx hk1 hbx hfo
      have hwx2 := HWX.out
      clear HWX
      subst hwx2
      go_wp2_with fail
      go_region_held3 (fun w' => w'.cell? ⟨A, 0, none⟩ = some (.slice (some ⟨b, 0, none⟩) G.length capg) ∧ w'.cell? ⟨wr.heap.size, 2, none⟩ = some (.slice (some ⟨bk, ok, none⟩) G[i].kids.length capk) ∧ w'.cell? ⟨bk, ok, none⟩ = some (.int .i64 (x : Int)))
        (first
          | go_keep
          | exact ⟨e0, e1, e2⟩
          | exact ⟨aa, x2, dd⟩)
        (first
          | (go_at_call 114; refine HCALL.out.mono ?_; rintro e w3 ⟨rfl, hb3⟩; have HB3 := mkHid hb3; have e0 := (hb3.cell (p := ⟨A, 0, none⟩) (cell_lt aa)).trans aa; have e1 := (hb3.cell (p := ⟨wr.heap.size, 2, none⟩) (cell_lt x2)).trans x2; have e2 := (hb3.cell (p := ⟨bk, ok, none⟩) (cell_lt dd)).trans dd; clear hb3))
      have HB03 : Hid (Below wr.heap.size wr w3) := HBX.out.trans (HB3.out.mono HBX.out.size)
      have HX3 : Hid (w3.heap[wr.heap.size]? = some (.cells #[.int .i64 G[i].op, .int .i64 G[i].num, .slice (some ⟨bk, ok, none⟩) G[i].kids.length capk] 93)) := (HB3.out.block _ HZX.out).trans HXB.out
      clear e1 e2 aa dd x2
      cases fo with
      | none =>
        have HF : Hid (followN G G.length (kidAt G i 0) = none) := by rw [← HX.out]; exact HFO.out.symm
        have HD := mkHid (HR.out.dead (HP.out.next HB03.out) HB03.out HLW.out (Or.inl HF.out))
        have e1 : folO none = 0 := rfl
        have e2 : (none : Option Nat).isSome = false := rfl
        rw [e1, e2]
        clear e1 e2 e0
        go_wp2_with fail
        go_roundw
        case rel => exact ⟨m, n, rest, wt, G, S, _, rfl, HD.out⟩
        case measure => simp [intOf, slLenS, selLeft]
      | some q =>
        have HF : Hid (followN G G.length (kidAt G i 0) = some q) := by rw [← HX.out]; exact HFO.out.symm
        have hql : q < G.length := (followN_lt HINV.out.ok _ _ _ hkl HFO.out.symm).1
        have hqI : (q : Int) < (G.length : Int) := by omega
        obtain ⟨bl, off, r3, e, q0, q1, q2, -, -, hkq⟩ := (HC.out.next HB03.out).at q hql
        cases e
        simp only [Nat.zero_add] at q0 q1 q2
        obtain ⟨adq, capq, rfl, -, -, -⟩ := id hkq
        have HKQ := mkHid hkq
        have e1 : folO (some q) = (q : Int) := rfl
        have e2 : (some q).isSome = true := rfl
        rw [e1, e2]
        clear e1 e2 hkq
        obtain ⟨w4, hw4⟩ : ∃ w4 : World, w4 = w3.alloc (.cells #[.int .i64 G[q].op, .int .i64 G[q].num, .slice adq G[q].kids.length capq] 93) := ⟨_, rfl⟩
        have HW4 := mkHid hw4
        have HB34 : Hid (Below w3.heap.size w3 w4) := by rw [hw4]; exact box_below _ _
        have HB04 : Hid (Below wr.heap.size wr w4) := HB03.out.trans (HB34.out.mono HB03.out.size)
        have HX4 : Hid (w4.heap[wr.heap.size]? = some (.cells #[.int .i64 G[i].op, .int .i64 G[i].num, .slice (some ⟨bk, ok, none⟩) G[i].kids.length capk] 93)) := (HB34.out.block _ (Array.getElem?_eq_some_iff.1 HX3.out).1).trans HX3.out
        have HQ4 : Hid (w4.heap[w3.heap.size]? = some (.cells #[.int .i64 G[q].op, .int .i64 G[q].num, .slice adq G[q].kids.length capq] 93)) := by rw [Hid, hw4]; exact Deep.blk_alloc_new _ _
        have x0 := cell_of_blk HX4.out 0 _ rfl
        have z0 := cell_of_blk HQ4.out 0 _ rfl
        have z1 := cell_of_blk HQ4.out 1 _ rfl
        have z2 := cell_of_blk HQ4.out 2 _ rfl
        clear hw4
        have hw4 := HW4.out
        clear HW4
        subst hw4
        by_cases h5 : G[q].op = 5
        · have t5 : (G[q].op == 5) = true := by simp [h5]
          have HEN : Hid (Enabled G i q) := ⟨hil, HP1.out, HF.out, by rw [opAt_at q hql]; exact h5⟩
          have HPART : Hid (∀ W, IIn W G[q].kids (.slice adq G[q].kids.length capq) → Calls Tryz.prog 123 #[.int .i64 G[i].op, .agg #[.int .i64 G[q].op, .int .i64 G[q].num, .slice adq G[q].kids.length capq]] W fun e w' => e = .returned (.int .i64 (partG G (opAt G i) q : Int)) ∧ Below W.heap.size W w') := fun W h => part_calls HINV.out.ok i q hil hql HS67.out h5 _ W h
          have HSA : Hid (selAt G i q = G.set i (indTo (partG G (opAt G i) q))) := rfl
          obtain ⟨pp, hpp⟩ : ∃ pp, pp = partG G (opAt G i) q := ⟨_, rfl⟩
          rw [← hpp] at HPART HSA
          clear h5 hpp
          go_wp2_with fail
          refine (HPART.out _ (HKQ.out.next HB34.out)).mono ?_
          rintro e w5 ⟨rfl, hb5⟩
          have HB05 : Hid (Below wr.heap.size wr w5) := HB04.out.trans (hb5.mono HB04.out.size)
          have HP5 := mkHid (HP.out.next HB05.out)
          have HL5 : Hid (lo ≤ w5.heap.size) := Nat.le_trans HLW.out HB05.out.size
          obtain ⟨ys, hys⟩ := HP5.out.own.row
          have HYS := mkHid hys
          clear hb5 hys e0 q0 q1 q2 x0 z0 z1 z2
          go_wp2_with fail
          refine (redirectE_calls A b G.length capg i pp lo ys w5 HP5.out.box HYS.out hil (by omega)).mono ?_
          rintro e w6 ⟨rfl, hw6⟩
          have HP6 := mkHid (HP5.out.ind rfl HL5.out i pp hil)
          have HB6 : Hid (Below lo wr w6) := by rw [← hw6]; exact st3_below ((HB05.out.mono HLW.out).alloc HL5.out _) (HP5.out.gb b rfl).1
          have HL6 : Hid (lo ≤ w6.heap.size) := by rw [← hw6, st3_size, Deep.nblk_alloc]; exact Nat.le_succ_of_le HL5.out
          rw [hw6] at HP6
          clear hw6
          go_wp2_with (first
            | (at_lookup; go_must (refine wpList_lookG _ rfl _ _ rfl w.heap.size n wt _ HP6.out.mp HP6.out.msep (by omega) rfl i (by omega) rfl ?_); intro v D hvs hvn hvo hvd hvl hvb; go_must (have HVS := mkHid hvs); have HVL := mkHid hvl; go_must (obtain ⟨adv, capv, rfl⟩ := hvs.len); clear hvs hvn hvo hvd hvl hvb)
            | (at_builtin; go_must (refine wpList_push_at rfl _ _ rfl _ lo rest (wt i) (.slice (some ⟨gb, 0, none⟩) rest.length cw) (.slice adv (wt i).length capv) rfl HP6.out.wk rfl HVS.out.pin rfl HL6.out (by have := HVL.out; omega) ?_); intro v' w7 hst7 hg7 hw7; go_must (obtain ⟨ad7, cap7, e7⟩ := hst7.len); rw [List.length_append] at e7; subst e7; go_must (have HP7 := mkHid (HP6.out.push hst7 hg7 hw7)); have HG7 := mkHid hg7; clear hst7 hg7 hw7))
          have HB7 : Hid (Below lo wr w7) := HB6.out.grown HG7.out HL6.out fun k e => (HP6.out.wb k e.symm).1
          rw [← HSA.out] at HP7
          have HMK := mkHid (HR.out.make HG.out HP7.out HB7.out HEN.out)
          go_roundw
          case rel => exact ⟨m + 1, n, rest ++ wt i, wt, selAt G i q, _, _, by go_num, HMK.out.1⟩
          case measure => have := HMK.out.2; simpa [intOf, slLenS] using this
        · have t5 : (G[q].op == 5) = false := by simp [h5]
          have H5 : Hid (opAt G q ≠ 5) := by rw [Hid, opAt_at q hql]; exact h5
          clear h5
          go_wp2_with fail
          refine (isSel_calls G[q].op G[q].num adq G[q].kids.length capq G[q].kids _).mono ?_
          rintro e w5 ⟨rfl, hb5⟩
          have HB05 : Hid (Below wr.heap.size wr w5) := HB04.out.trans (hb5.mono HB04.out.size)
          have HP5 := mkHid (HP.out.next HB05.out)
          have HL5 : Hid (lo ≤ w5.heap.size) := Nat.le_trans HLW.out HB05.out.size
          clear hb5 e0 q0 q1 q2 x0 z0 z1 z2
          cases hsb : selB ⟨G[q].op, G[q].num, G[q].kids⟩ with
          | false =>
            have HNS : Hid (¬ isSel G q) := by
              rw [Hid, isSel_B, cellD_at hql]
              intro h
              have h2 : selB G[q] = false := hsb
              rw [h2] at h
              cases h
            have HD := mkHid (HR.out.dead HP5.out HB05.out HLW.out (Or.inr ⟨q, HF.out, H5.out, HNS.out⟩))
            clear hsb
            go_wp2_with fail
            go_roundw
            case rel => exact ⟨m, n, rest, wt, G, S, _, rfl, HD.out⟩
            case measure => simp [intOf, slLenS, selLeft]
          | true =>
            have HSQ : Hid (isSel G q) := by rw [Hid, isSel_B, cellD_at hql]; exact hsb
            have HW0 : Hid (∀ y ∈ wt q, y ≤ 1048576) := fun y hy => by
              have := isSel_lt (HR.out.wl.wsel q HSQ.out y hy).1
              omega
            have HW1 : Hid (∀ y ∈ wt q ++ [i], y ≤ 1048576) := fun y hy => by
              rcases List.mem_append.1 hy with h | h
              · exact HW0.out y h
              · simp only [List.mem_singleton] at h; omega
            have HLO5 : Hid (w.heap.size + 1 ≤ (w5.alloc (.cells #[.int .i64 (i : Int)] 3)).heap.size) := by rw [Hid, Deep.nblk_alloc]; have := grp_lt HP5.out.mp; omega
            have hn1 : n ≤ 1048576 := by omega
            have hq1 : q ≤ 1048576 := by omega
            clear hsb
            go_wp2_with (first
              | (at_lookup; go_must (refine wpList_lookG _ rfl _ _ rfl w.heap.size n wt _ HP5.out.mp HP5.out.msep (by omega) rfl q (by omega) rfl ?_); intro v D hvs hvn hvo hvd hvl hvb; go_must (have HVS := mkHid hvs); have HVL := mkHid hvl; have HVN := mkHid hvn; have HVO := mkHid hvo; have HVD := mkHid hvd; have HVB := mkHid hvb; have HLS := mkHid (len_one_le (wt q) i hvl hnn); have HLN := mkHid (len_one_le2 (wt q) i hvl); go_must (obtain ⟨adv, capv, rfl⟩ := hvs.len); clear hvs hvn hvo hvd hvl hvb)
              | (at_builtin; go_must (refine wpList_push_at rfl _ _ rfl _ (w.heap.size + 1) (wt q) [i] (.slice adv (wt q).length capv) (.slice (some ⟨w5.heap.size, 0, none⟩) 1 1) rfl (HVS.out.alloc _) rfl (one_in w5 i) rfl HLO5.out HLS.out ?_); intro v' w7 hst7 hg7 hw7; go_must (have HST7 := mkHid hst7); go_must (have HNN := mkHid (HP5.out.noNew HVN.out hw7)); go_must (have HG7 := mkHid (grown_alloc hg7)); clear hst7 hg7 hw7)
              | (at_mapUpdate; go_must (refine wpList_storeG _ rfl _ _ _ rfl hn1 hq1 HVO.out HVD.out HVS.out HP5.out.msep HNN.out.1 HVB.out rfl rfl rfl HG7.out HST7.out (snoc_ne _ _) HW1.out HW0.out HLN.out HNN.out.2 ?_); intro w8 D' h8 hd8 hg8 hs8; have HW8 := mkHid h8; have HD8 := mkHid hd8; have HG8 := mkHid hg8; have HS8 := mkHid hs8; clear h8 hd8 hg8 hs8))
            have HP8 := mkHid (HP5.out.store (fun k e => ⟨HVN.out k e, by have := (own_some HVS.out k e.symm).1; omega⟩) HG7.out HG8.out HW8.out HD8.out HS8.out)
            have HB8 : Hid (Below lo wr w8) := ((HB05.out.mono HLW.out).grown HG7.out HL5.out fun k e => by have := (own_some HVS.out k e).1; have := HP5.out.lm; omega).grown HG8.out (Nat.le_trans HL5.out HG7.out.size) fun k e => by simp only [Option.some.injEq] at e; subst e; exact HP5.out.lm
            have HWT := mkHid (HR.out.wait HP8.out HB8.out HF.out HSQ.out)
            go_roundw
            case rel => first | exact ⟨m, n + 1, rest, _, G, S, _, rfl, HWT.out⟩ | ((repeat apply Exists.intro); exact ⟨⟨m, n + 1, rest, _, G, S, _, rfl, HWT.out⟩, rfl⟩)
            case measure =>
              show selLeft g m rest.length < selLeft g m (rest.length + 1)
              unfold selLeft
              omega
    · obtain rfl : work = [] := List.eq_nil_of_length_eq_zero (by omega)
      have HV := mkHid (SpR.fin HG.out hr)
      obtain ⟨adw, capw, rfl⟩ := Stk.nil (n := 0) hr.mem.wk
      clear hr hwl hlt
      go_wp2_with fail
      go_ret
      exact HV.out

set_option maxHeartbeats 800000 in
theorem implSelG_calls (g : List Ce) (v : Value) (w : World) (hk : CIn w g v) :
    Calls Tryz.prog 103 #[v] w fun e w' => ∃ gv, e = .returned (.tuple #[gv, .int .i64 ((selO g).2 : Int), .bool (graphB g 6)]) ∧ GOwn w' (List.range' w.heap.size (w'.heap.size - w.heap.size)) (selO g).1 gv ∧ Below w.heap.size w w' := by
  have HK : Hid (CIn w g v) := hk
  clear hk
  go_enter Tryz.func103, Tryz.ntmps103
  go_wp2_with fail
  refine (implGraph_calls g 6 _ _ HK.out).mono ?_
  rintro e w1 ⟨rfl, hb1⟩
  have HB1 : Hid (Below w.heap.size w w1) := hb1
  clear hb1
  cases hg : graphB g 6 with
  | false =>
    have HV := mkHid (selO_no hg)
    have HT := mkHid hg
    clear hg
    go_wp2_with fail
    go_ret3
    rw [HV.out, HT.out]
    exact ⟨_, rfl, (OwnC.nil w1 w.heap.size (fun _ => False)).own (fun _ h => h.elim), HB1.out⟩
  | true =>
    have HT := mkHid hg
    have HV := mkHid (selO_yes hg)
    clear hg
    go_wp2_with fail
    refine (arenaOf_calls g _ _ (HK.out.next HB1.out) ⟨6, HT.out⟩).mono ?_
    rintro e w2 ⟨rfl, gv, ho, hA, hb2⟩
    have HO := mkHid ho
    have HA := mkHid hA
    have HB2 := mkHid hb2
    clear ho hA hb2
    go_wp2_with fail
    refine (selectParts_calls w1.heap.size w1.heap.size g gv w2 HA.out HO.out (Nat.le_refl _) HB2.out.size HT.out).mono ?_
    rintro e w3 ⟨rfl, ad, cap, hA, ho, hb3⟩
    have a0 := cell_of_blk hA 0 _ rfl
    have HB3 : Hid (Below w.heap.size w w3) := HB1.out.trans ((HB2.out.trans hb3).mono HB1.out.size)
    have HG3 := mkHid ((ho.lower2 HB1.out.size (S' := fun b => w.heap.size ≤ b) fun b hb => Nat.le_trans HB1.out.size hb).own fun k h _ => h)
    clear hA ho hb3
    go_wp2_with fail
    go_ret3
    rw [HV.out, HT.out]
    exact ⟨_, rfl, HG3.out, HB3.out⟩
end Go.Proofs.YtiipcgnkfhjpeaaGreatDoor
/-
  THE PROGRAM's TidyGraph.
-/
namespace Go.Proofs.YtiipcgnkfhjpeaaGreatDoor
set_option linter.unusedVariables false
set_option linter.unusedSimpArgs false
open Go.RowKit

theorem root_noG2 {g : List Ce} {rs : List Int} (h : graphB g 6 = false) : rootB g rs = false := by unfold rootB; rw [h]; rfl
set_option maxHeartbeats 800000 in
theorem implTidy_calls (g : List Ce) (rs : List Int) (v rv : Value) (w : World) (hk : CIn w g v) (hr : IIn w rs rv) :
    Calls Tryz.prog 81 #[v, rv] w (OwnGI (tidyO g rs) (rootB g rs) w) := by
  have HK : Hid (CIn w g v) := hk
  have HR : Hid (IIn w rs rv) := hr
  clear hk hr
  go_enter Tryz.func81, Tryz.ntmps81
  go_wp2_with fail
  refine (implSelG_calls g _ _ HK.out).mono ?_
  rintro e w1 ⟨gv, rfl, ho, hb1⟩
  have HB1 : Hid (Below w.heap.size w w1) := hb1
  have HO := mkHid ho.inn
  clear hb1 ho
  cases hg : graphB g 6 with
  | false =>
    have HT := mkHid (root_noG2 (rs := rs) hg)
    have HV := mkHid (tidyO_no HT.out)
    clear hg
    go_wp2_with fail
    go_ret3
    rw [HV.out, HT.out]
    exact ⟨_, _, rfl, gi_res (lo := w1.heap.size) (OwnC.nil _ _ (fun _ => False)) (fun _ h => h.elim) (no_ints _ _ _ 0 (by simp [maxLen])) HB1.out.size (Nat.le_refl _), HB1.out⟩
  | true =>
    have HV := mkHid (tidyO_graph (rs := rs) hg)
    have HRT := mkHid (rootB_sel hg rs)
    have HSO := mkHid (selO_yes hg)
    rw [HSO.out] at HO
    clear hg
    go_wp2_with fail
    refine (implColl_calls (selRes g).1 rs _ _ _ HO.out (HR.out.next HB1.out)).mono ?_
    rintro e w2 ⟨gv2, tv2, rfl, hres, hb2⟩
    rw [HRT.out]
    have HRES := mkHid (hres.lower HB1.out.size)
    have HB2 : Hid (Below w.heap.size w w2) := HB1.out.trans (hb2.mono HB1.out.size)
    clear hres hb2
    go_wp2_with fail
    go_ret3
    rw [HV.out]
    exact ⟨_, _, rfl, HRES.out, HB2.out⟩
end Go.Proofs.YtiipcgnkfhjpeaaGreatDoor
