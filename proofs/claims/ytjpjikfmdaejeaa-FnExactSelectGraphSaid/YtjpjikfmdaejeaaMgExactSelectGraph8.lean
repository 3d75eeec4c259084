/-
  THE PROGRAM's selectParts: the walk.
-/
import Derived.Test.YtjpjikfmdaejeaaMgExactSelectGraph7
import Derived.Test.YtjpjikfmdaejeaaMgExactSelectGraph3
import Derived.Test.YtjpjikfmdaejeaaMgExactSelectGraph6
import Derived.Test.YtjpjikfmdaejeaaMgExactSelectGraph1
import Derived.Deep.RegionHeld3
namespace Go.Proofs.Ytjpjikfmdaejeaa
set_option linter.unusedVariables false
set_option linter.unusedSimpArgs false
open Go.RowKit Go.Maps

theorem OwnC.lower2 {w : World} {lo lo' : Nat} {S S' : Nat → Prop} {g : List Ce} {v : Value} (h : OwnC w lo S g v) (hl : lo' ≤ lo) (hS : ∀ b, S b → S' b) : OwnC w lo' S' g v := by
  obtain ⟨h0, xs, kb, h1, h2, h3⟩ := h
  refine ⟨h0, xs, kb, ⟨h1.1, ?_⟩, fun j hj => ?_, h3⟩
  · rcases h1.2 with h | ⟨b, cap, cur, rfl, hg, r⟩
    · exact Or.inl h
    · exact Or.inr ⟨b, cap, cur, rfl, Nat.le_trans hl hg, r⟩
  · obtain ⟨kv, e0, e1, e2, e3⟩ := h2 j hj
    exact ⟨kv, e0, e1, e2, e3.keep (fun k hk _ => hS k hk) fun _ _ _ _ => rfl⟩
theorem len_one_le (l : List Nat) (i : Nat) {n : Nat} (h : l.length ≤ n) (hn : n ≤ 200000) : l.length + [i].length ≤ 1048576 := by simp only [List.length_cons, List.length_nil]; omega
theorem len_one_le2 (l : List Nat) (i : Nat) {n : Nat} (h : l.length ≤ n) : (l ++ [i]).length ≤ n + 1 := by rw [List.length_append]; simp only [List.length_cons, List.length_nil]; omega
theorem snoc_ne (l : List Nat) (i : Nat) : l ++ [i] ≠ [] := by simp
set_option maxRecDepth 100000 in
set_option maxHeartbeats 25600000 in
theorem selectParts_calls (A lo : Nat) (g : List Ce) (gv0 : Value) (w : World) (hA : w.heap[A]? = some (.cells #[gv0] 51)) (hO : OwnC w lo (fun b => lo ≤ b) g gv0) (hla : lo ≤ A) (hlo : lo ≤ w.heap.size) (hg : graphB g 6 = true) :
    Calls Try.prog 41 #[.pointer (some ⟨A, 0, none⟩)] w (SelDone A lo (selRes g) w) := by
  have HG := mkHid hg
  have h400 : g.length ≤ 400 := graphB_len hg
  have hmm := @run_makeMap Try.prog
  have HA := mkHid hA
  have HO := mkHid hO
  have hA1 : (w.alloc (.map #[] 0)).heap[A]? = some (.cells #[gv0] 51) := (Deep.blk_alloc_lt _ _ _ (Array.getElem?_eq_some_iff.1 hA).1).trans hA
  have HA1 := mkHid hA1
  have HC1 := mkHid (((hO.own fun k h _ => h).inn).next (box_below w (.map #[] 0)))
  clear hA hO hg hA1
  go_enter Try.func41, Try.ntmps41
  go_wp2_with fail
  refine (selections_calls A g _ _ HA1.out HC1.out h400).mono ?_
  rintro e w2 ⟨wv0, rfl, hst, hb2⟩
  have HST := mkHid (sp_start HA.out HO.out hla hlo HG.out hst hb2)
  clear hst hb2
  go_wp2_with fail
  go_loopw [3, 5] (fun z pv wr => ∃ (m n : Nat) (work : List Nat) (wt : Nat → List Nat) (G : List Ce) (S : Nat → Prop) (gv : Value), z = .int .i64 m ∧ SpR A w.heap.size lo g w m n work wt G S gv pv wr) (fun z pv _ => selLeft g (intOf z).toNat (slLen pv))
  case atStart =>
    obtain ⟨S, h⟩ := HST.out
    exact ⟨0, 0, _, _, g, S, _, rfl, h⟩
  case round =>
    obtain ⟨m, n, work, wt, G, S, gv, rfl, hr⟩ := hrel
    have HR := mkHid hr
    have hml := sel_le HG.out hr.rel
    have HINV := mkHid (selR_inv HG.out hr.rel)
    have hwl := hr.wl.len
    have hG400 : G.length ≤ 400 := by rw [HINV.out.len]; exact h400
    have hnn : n ≤ 200000 := by have := hr.num; omega
    have HLW : Hid (lo ≤ wr.heap.size) := Nat.le_trans hlo (by have := hr.bel.size; exact this)
    by_cases hlt : 0 < work.length
    · obtain ⟨rest, i, rfl⟩ := split_last work hlt
      obtain ⟨gb, cw, rfl, hc1, hc2, dw, hp⟩ := hr.mem.pop
      have HP := mkHid hp
      obtain ⟨p1, p2, p3⟩ := hr.wl.pop_mem
      have hil := isSel_lt p1
      obtain ⟨adg, capg, rfl⟩ := hr.mem.own.form
      obtain ⟨b, rfl, -, -, -⟩ := hr.mem.own.blkW (by omega)
      have hC := (hr.mem.own.own fun k hk _ => (hr.mem.sl k hk).1).inn
      have HC := mkHid hC
      have hs67 : G[i].op = 6 ∨ G[i].op = 7 := by unfold isSel at p1; rw [opAt_at i hil] at p1; exact p1
      have HS67 := mkHid hs67
      have HP1 := mkHid p1
      have hk1 := sel_kids HINV.out.ok hil hs67
      obtain ⟨bl, off, r, e, c0, c1, c2, -, -, hkk⟩ := hC.at i hil
      cases e
      simp only [Nat.zero_add] at c0 c1 c2
      obtain ⟨hke, hkl⟩ := kidAt_get HINV.out.ok i hil 0 (by omega)
      obtain ⟨adk, capk, rfl, -, -, -⟩ := id hkk
      obtain ⟨bk, ok, rfl, d0⟩ := hkk.at 0 (by omega)
      rw [hke, Nat.add_zero] at d0
      obtain ⟨x, hx⟩ : ∃ x, x = kidAt G i 0 := ⟨_, rfl⟩
      have HX := mkHid hx
      rw [← hx] at d0 hkl
      have hk0I : (0 : Int) < (G[i].kids.length : Int) := by omega
      have hk0N : 0 < G[i].kids.length := by omega
      have hiI : (i : Int) < (G.length : Int) := by omega
      have a0 := cell_of_blk hr.mem.box 0 _ rfl
      obtain ⟨wx, hwx⟩ : ∃ wx : World, wx = wr.alloc (.cells #[.int .i64 G[i].op, .int .i64 G[i].num, .slice (some ⟨bk, ok, none⟩) G[i].kids.length capk] 45) := ⟨_, rfl⟩
      have HWX := mkHid hwx
      have hbx : Below wr.heap.size wr wx := by rw [hwx]; exact box_below _ _
      have HBX := mkHid hbx
      have HZX : Hid (wr.heap.size < wx.heap.size) := by rw [Hid, hwx, Deep.nblk_alloc]; omega
      have HXB : Hid (wx.heap[wr.heap.size]? = some (.cells #[.int .i64 G[i].op, .int .i64 G[i].num, .slice (some ⟨bk, ok, none⟩) G[i].kids.length capk] 45)) := by rw [Hid, hwx]; exact Deep.blk_alloc_new _ _
      have aa := (hbx.cell (p := ⟨A, 0, none⟩) (cell_lt a0)).trans a0
      have dd := (hbx.cell (p := ⟨bk, ok, none⟩) (cell_lt d0)).trans d0
      have x2 := cell_of_blk HXB.out 2 _ rfl
      obtain ⟨fo, hfo⟩ : ∃ fo, fo = followN G G.length x := ⟨_, rfl⟩
      have HFO := mkHid hfo
      have HCALL : Hid (Calls Try.prog 48 #[.slice (some ⟨b, 0, none⟩) G.length capg, .int .i64 (x : Int)] wx.drew (fun e w' => e = .returned (.tuple #[.int .i64 (folO fo), .bool fo.isSome]) ∧ Below wx.heap.size wx w')) := by
        rw [hfo]
        exact (standsFor_calls G x _ _ ((HC.out.next hbx).drew) ⟨6, HINV.out.ok⟩ hkl).mono fun e w' h => ⟨h.1, ((Below.refl _ _).drew).trans h.2⟩
      simp only [List.length_append, List.length_cons, List.length_nil, Nat.zero_add] at hwl hlt
      unfold maxLen at hc2
      clear hr hp p1 p2 p3 hC hs67 hkk hke hx hk1 hbx hfo
      have hwx2 := HWX.out
      clear HWX
      subst hwx2
      go_wp2_with fail
      go_region_held3 (fun w' => w'.cell? ⟨A, 0, none⟩ = some (.slice (some ⟨b, 0, none⟩) G.length capg) ∧ w'.cell? ⟨wr.heap.size, 2, none⟩ = some (.slice (some ⟨bk, ok, none⟩) G[i].kids.length capk) ∧ w'.cell? ⟨bk, ok, none⟩ = some (.int .i64 (x : Int)))
        (first
          | go_keep
          | exact ⟨e0, e1, e2⟩
          | exact ⟨aa, x2, dd⟩)
        (first
          | (go_at_call 48; refine HCALL.out.mono ?_; rintro e w3 ⟨rfl, hb3⟩; have HB3 := mkHid hb3; have e0 := (hb3.cell (p := ⟨A, 0, none⟩) (cell_lt aa)).trans aa; have e1 := (hb3.cell (p := ⟨wr.heap.size, 2, none⟩) (cell_lt x2)).trans x2; have e2 := (hb3.cell (p := ⟨bk, ok, none⟩) (cell_lt dd)).trans dd; clear hb3))
      have HB03 : Hid (Below wr.heap.size wr w3) := HBX.out.trans (HB3.out.mono HBX.out.size)
      have HX3 : Hid (w3.heap[wr.heap.size]? = some (.cells #[.int .i64 G[i].op, .int .i64 G[i].num, .slice (some ⟨bk, ok, none⟩) G[i].kids.length capk] 45)) := (HB3.out.block _ HZX.out).trans HXB.out
      clear e1 e2 aa dd x2
      cases fo with
      | none =>
        have HF : Hid (followN G G.length (kidAt G i 0) = none) := by rw [← HX.out]; exact HFO.out.symm
        have HD := mkHid (HR.out.dead (HP.out.next HB03.out) HB03.out HLW.out (Or.inl HF.out))
        have e1 : folO none = 0 := rfl
        have e2 : (none : Option Nat).isSome = false := rfl
        rw [e1, e2]
        clear e1 e2 e0
        go_wp2_with fail
        go_roundw
        case rel => exact ⟨m, n, rest, wt, G, S, _, rfl, HD.out⟩
        case measure => simp [intOf, slLen, selLeft]
      | some q =>
        have HF : Hid (followN G G.length (kidAt G i 0) = some q) := by rw [← HX.out]; exact HFO.out.symm
        have hql : q < G.length := (followN_lt HINV.out.ok _ _ _ hkl HFO.out.symm).1
        have hqI : (q : Int) < (G.length : Int) := by omega
        obtain ⟨bl, off, r3, e, q0, q1, q2, -, -, hkq⟩ := (HC.out.next HB03.out).at q hql
        cases e
        simp only [Nat.zero_add] at q0 q1 q2
        obtain ⟨adq, capq, rfl, -, -, -⟩ := id hkq
        have HKQ := mkHid hkq
        have e1 : folO (some q) = (q : Int) := rfl
        have e2 : (some q).isSome = true := rfl
        rw [e1, e2]
        clear e1 e2 hkq
        obtain ⟨w4, hw4⟩ : ∃ w4 : World, w4 = w3.alloc (.cells #[.int .i64 G[q].op, .int .i64 G[q].num, .slice adq G[q].kids.length capq] 45) := ⟨_, rfl⟩
        have HW4 := mkHid hw4
        have HB34 : Hid (Below w3.heap.size w3 w4) := by rw [hw4]; exact box_below _ _
        have HB04 : Hid (Below wr.heap.size wr w4) := HB03.out.trans (HB34.out.mono HB03.out.size)
        have HX4 : Hid (w4.heap[wr.heap.size]? = some (.cells #[.int .i64 G[i].op, .int .i64 G[i].num, .slice (some ⟨bk, ok, none⟩) G[i].kids.length capk] 45)) := (HB34.out.block _ (Array.getElem?_eq_some_iff.1 HX3.out).1).trans HX3.out
        have HQ4 : Hid (w4.heap[w3.heap.size]? = some (.cells #[.int .i64 G[q].op, .int .i64 G[q].num, .slice adq G[q].kids.length capq] 45)) := by rw [Hid, hw4]; exact Deep.blk_alloc_new _ _
        have x0 := cell_of_blk HX4.out 0 _ rfl
        have z0 := cell_of_blk HQ4.out 0 _ rfl
        have z1 := cell_of_blk HQ4.out 1 _ rfl
        have z2 := cell_of_blk HQ4.out 2 _ rfl
        clear hw4
        have hw4 := HW4.out
        clear HW4
        subst hw4
        by_cases h5 : G[q].op = 5
        · have t5 : (G[q].op == 5) = true := by simp [h5]
          have HEN : Hid (Enabled G i q) := ⟨hil, HP1.out, HF.out, by rw [opAt_at q hql]; exact h5⟩
          have HPART : Hid (∀ W, IIn W G[q].kids (.slice adq G[q].kids.length capq) → Calls Try.prog 57 #[.int .i64 G[i].op, .agg #[.int .i64 G[q].op, .int .i64 G[q].num, .slice adq G[q].kids.length capq]] W fun e w' => e = .returned (.int .i64 (partG G (opAt G i) q : Int)) ∧ Below W.heap.size W w') := fun W h => part_calls HINV.out.ok i q hil hql HS67.out h5 _ W h
          have HSA : Hid (selAt G i q = G.set i (indTo (partG G (opAt G i) q))) := rfl
          obtain ⟨pp, hpp⟩ : ∃ pp, pp = partG G (opAt G i) q := ⟨_, rfl⟩
          rw [← hpp] at HPART HSA
          clear h5 hpp
          go_wp2_with fail
          refine (HPART.out _ (HKQ.out.next HB34.out)).mono ?_
          rintro e w5 ⟨rfl, hb5⟩
          have HB05 : Hid (Below wr.heap.size wr w5) := HB04.out.trans (hb5.mono HB04.out.size)
          have HP5 := mkHid (HP.out.next HB05.out)
          have HL5 : Hid (lo ≤ w5.heap.size) := Nat.le_trans HLW.out HB05.out.size
          obtain ⟨ys, hys⟩ := HP5.out.own.row
          have HYS := mkHid hys
          clear hb5 hys e0 q0 q1 q2 x0 z0 z1 z2
          go_wp2_with fail
          refine (redirectE_calls A b G.length capg i pp lo ys w5 HP5.out.box HYS.out hil (by omega)).mono ?_
          rintro e w6 ⟨rfl, hw6⟩
          have HP6 := mkHid (HP5.out.ind rfl HL5.out i pp hil)
          have HB6 : Hid (Below lo wr w6) := by rw [← hw6]; exact st3_below ((HB05.out.mono HLW.out).alloc HL5.out _) (HP5.out.gb b rfl).1
          have HL6 : Hid (lo ≤ w6.heap.size) := by rw [← hw6, st3_size, Deep.nblk_alloc]; exact Nat.le_succ_of_le HL5.out
          rw [hw6] at HP6
          clear hw6
          go_wp2_with (first
            | (at_lookup; go_must (refine wpList_lookG _ rfl _ _ rfl w.heap.size n wt _ HP6.out.mp HP6.out.msep (by omega) rfl i (by omega) rfl ?_); intro v D hvs hvn hvo hvd hvl hvb; go_must (have HVS := mkHid hvs); have HVL := mkHid hvl; go_must (obtain ⟨adv, capv, rfl⟩ := hvs.len); clear hvs hvn hvo hvd hvl hvb)
            | (at_builtin; go_must (refine wpList_push_at rfl _ _ rfl _ lo rest (wt i) (.slice (some ⟨gb, 0, none⟩) rest.length cw) (.slice adv (wt i).length capv) rfl HP6.out.wk rfl HVS.out.pin rfl HL6.out (by have := HVL.out; omega) ?_); intro v' w7 hst7 hg7 hw7; go_must (obtain ⟨ad7, cap7, e7⟩ := hst7.len); rw [List.length_append] at e7; subst e7; go_must (have HP7 := mkHid (HP6.out.push hst7 hg7 hw7)); have HG7 := mkHid hg7; clear hst7 hg7 hw7))
          have HB7 : Hid (Below lo wr w7) := HB6.out.grown HG7.out HL6.out fun k e => (HP6.out.wb k e.symm).1
          rw [← HSA.out] at HP7
          have HMK := mkHid (HR.out.make HG.out HP7.out HB7.out HEN.out)
          go_roundw
          case rel => exact ⟨m + 1, n, rest ++ wt i, wt, selAt G i q, _, _, by go_num, HMK.out.1⟩
          case measure => have := HMK.out.2; simpa [intOf, slLen] using this
        · have t5 : (G[q].op == 5) = false := by simp [h5]
          have H5 : Hid (opAt G q ≠ 5) := by rw [Hid, opAt_at q hql]; exact h5
          clear h5
          go_wp2_with fail
          refine (isSel_calls G[q].op G[q].num adq G[q].kids.length capq G[q].kids _).mono ?_
          rintro e w5 ⟨rfl, hb5⟩
          have HB05 : Hid (Below wr.heap.size wr w5) := HB04.out.trans (hb5.mono HB04.out.size)
          have HP5 := mkHid (HP.out.next HB05.out)
          have HL5 : Hid (lo ≤ w5.heap.size) := Nat.le_trans HLW.out HB05.out.size
          clear hb5 e0 q0 q1 q2 x0 z0 z1 z2
          cases hsb : selB ⟨G[q].op, G[q].num, G[q].kids⟩ with
          | false =>
            have HNS : Hid (¬ isSel G q) := by
              rw [Hid, isSel_B, cellD_at hql]
              intro h
              have h2 : selB G[q] = false := hsb
              rw [h2] at h
              cases h
            have HD := mkHid (HR.out.dead HP5.out HB05.out HLW.out (Or.inr ⟨q, HF.out, H5.out, HNS.out⟩))
            clear hsb
            go_wp2_with fail
            go_roundw
            case rel => exact ⟨m, n, rest, wt, G, S, _, rfl, HD.out⟩
            case measure => simp [intOf, slLen, selLeft]
          | true =>
            have HSQ : Hid (isSel G q) := by rw [Hid, isSel_B, cellD_at hql]; exact hsb
            have HW0 : Hid (∀ y ∈ wt q, y ≤ 1048576) := fun y hy => by
              have := isSel_lt (HR.out.wl.wsel q HSQ.out y hy).1
              omega
            have HW1 : Hid (∀ y ∈ wt q ++ [i], y ≤ 1048576) := fun y hy => by
              rcases List.mem_append.1 hy with h | h
              · exact HW0.out y h
              · simp only [List.mem_singleton] at h; omega
            have HLO5 : Hid (w.heap.size + 1 ≤ (w5.alloc (.cells #[.int .i64 (i : Int)] 3)).heap.size) := by rw [Hid, Deep.nblk_alloc]; have := grp_lt HP5.out.mp; omega
            have hn1 : n ≤ 1048576 := by omega
            have hq1 : q ≤ 1048576 := by omega
            clear hsb
            go_wp2_with (first
              | (at_lookup; go_must (refine wpList_lookG _ rfl _ _ rfl w.heap.size n wt _ HP5.out.mp HP5.out.msep (by omega) rfl q (by omega) rfl ?_); intro v D hvs hvn hvo hvd hvl hvb; go_must (have HVS := mkHid hvs); have HVL := mkHid hvl; have HVN := mkHid hvn; have HVO := mkHid hvo; have HVD := mkHid hvd; have HVB := mkHid hvb; have HLS := mkHid (len_one_le (wt q) i hvl hnn); have HLN := mkHid (len_one_le2 (wt q) i hvl); go_must (obtain ⟨adv, capv, rfl⟩ := hvs.len); clear hvs hvn hvo hvd hvl hvb)
              | (at_builtin; go_must (refine wpList_push_at rfl _ _ rfl _ (w.heap.size + 1) (wt q) [i] (.slice adv (wt q).length capv) (.slice (some ⟨w5.heap.size, 0, none⟩) 1 1) rfl (HVS.out.alloc _) rfl (one_in w5 i) rfl HLO5.out HLS.out ?_); intro v' w7 hst7 hg7 hw7; go_must (have HST7 := mkHid hst7); go_must (have HNN := mkHid (HP5.out.noNew HVN.out hw7)); go_must (have HG7 := mkHid (grown_alloc hg7)); clear hst7 hg7 hw7)
              | (at_mapUpdate; go_must (refine wpList_storeG _ rfl _ _ _ rfl hn1 hq1 HVO.out HVD.out HVS.out HP5.out.msep HNN.out.1 HVB.out rfl rfl rfl HG7.out HST7.out (snoc_ne _ _) HW1.out HW0.out HLN.out HNN.out.2 ?_); intro w8 D' h8 hd8 hg8 hs8; have HW8 := mkHid h8; have HD8 := mkHid hd8; have HG8 := mkHid hg8; have HS8 := mkHid hs8; clear h8 hd8 hg8 hs8))
            have HP8 := mkHid (HP5.out.store (fun k e => ⟨HVN.out k e, by have := (own_some HVS.out k e.symm).1; omega⟩) HG7.out HG8.out HW8.out HD8.out HS8.out)
            have HB8 : Hid (Below lo wr w8) := ((HB05.out.mono HLW.out).grown HG7.out HL5.out fun k e => by have := (own_some HVS.out k e).1; have := HP5.out.lm; omega).grown HG8.out (Nat.le_trans HL5.out HG7.out.size) fun k e => by simp only [Option.some.injEq] at e; subst e; exact HP5.out.lm
            have HWT := mkHid (HR.out.wait HP8.out HB8.out HF.out HSQ.out)
            go_roundw
            case rel => first | exact ⟨m, n + 1, rest, _, G, S, _, rfl, HWT.out⟩ | ((repeat apply Exists.intro); exact ⟨⟨m, n + 1, rest, _, G, S, _, rfl, HWT.out⟩, rfl⟩)
            case measure =>
              show selLeft g m rest.length < selLeft g m (rest.length + 1)
              unfold selLeft
              omega
    · obtain rfl : work = [] := List.eq_nil_of_length_eq_zero (by omega)
      have HV := mkHid (SpR.fin HG.out hr)
      obtain ⟨adw, capw, rfl⟩ := Stk.nil (n := 0) hr.mem.wk
      clear hr hwl hlt
      go_wp2_with fail
      go_ret
      exact HV.out

set_option maxHeartbeats 800000 in
theorem implSelG_calls (g : List Ce) (v : Value) (w : World) (hk : CIn w g v) :
    Calls Try.prog 24 #[v] w fun e w' => ∃ gv, e = .returned (.tuple #[gv, .int .i64 ((selO g).2 : Int), .bool (graphB g 6)]) ∧ GOwn w' (List.range' w.heap.size (w'.heap.size - w.heap.size)) (selO g).1 gv ∧ Below w.heap.size w w' := by
  have HK : Hid (CIn w g v) := hk
  clear hk
  go_enter Try.func24, Try.ntmps24
  go_wp2_with fail
  refine (implGraph_calls g 6 _ _ HK.out).mono ?_
  rintro e w1 ⟨rfl, hb1⟩
  have HB1 : Hid (Below w.heap.size w w1) := hb1
  clear hb1
  cases hg : graphB g 6 with
  | false =>
    have HV := mkHid (selO_no hg)
    have HT := mkHid hg
    clear hg
    go_wp2_with fail
    go_ret3
    rw [HV.out, HT.out]
    exact ⟨_, rfl, (OwnC.nil w1 w.heap.size (fun _ => False)).own (fun _ h => h.elim), HB1.out⟩
  | true =>
    have HT := mkHid hg
    have HV := mkHid (selO_yes hg)
    clear hg
    go_wp2_with fail
    refine (arenaOf_calls g _ _ (HK.out.next HB1.out) ⟨6, HT.out⟩).mono ?_
    rintro e w2 ⟨rfl, gv, ho, hA, hb2⟩
    have HO := mkHid ho
    have HA := mkHid hA
    have HB2 := mkHid hb2
    clear ho hA hb2
    go_wp2_with fail
    refine (selectParts_calls w1.heap.size w1.heap.size g gv w2 HA.out HO.out (Nat.le_refl _) HB2.out.size HT.out).mono ?_
    rintro e w3 ⟨rfl, ad, cap, hA, ho, hb3⟩
    have a0 := cell_of_blk hA 0 _ rfl
    have HB3 : Hid (Below w.heap.size w w3) := HB1.out.trans ((HB2.out.trans hb3).mono HB1.out.size)
    have HG3 := mkHid ((ho.lower2 HB1.out.size (S' := fun b => w.heap.size ≤ b) fun b hb => Nat.le_trans HB1.out.size hb).own fun k h _ => h)
    clear hA ho hb3
    go_wp2_with fail
    go_ret3
    rw [HV.out, HT.out]
    exact ⟨_, rfl, HG3.out, HB3.out⟩
end Go.Proofs.Ytjpjikfmdaejeaa
/-
  ONE ROW OF NUMBERS OF ITS OWN; a graph that keeps its rows while it is marked.
-/
namespace Go.Proofs.Ytjpjikfmdaejeaa
set_option linter.unusedVariables false
set_option linter.unusedSimpArgs false
open Go.RowKit

/-- numbers in the row b -/
def OneRow (w : World) (b : Nat) (X : List Int) (v : Value) : Prop := KRow w [b] X b v
theorem OneRow.keep {w w' : World} {b : Nat} {X : List Int} {v : Value} (h : OneRow w b X v) (hb : ∀ k, k = b → k < w.heap.size → w'.heap[k]? = w.heap[k]?) : OneRow w' b X v := by
  unfold OneRow at h ⊢
  refine h.keep (fun _ h => h) fun hx hm => ?_
  obtain ⟨_, _, _, _, _, h5⟩ := h
  rcases h5 with h5 | ⟨f5, -, -, h6, -⟩
  · exact absurd h5 hx
  · exact hb _ rfl h6.lt
theorem OneRow.next {w w' : World} {b : Nat} {X : List Int} {v : Value} (h : OneRow w b X v) (hb : Below w.heap.size w w') : OneRow w' b X v := h.keep fun k _ hk => hb.block k hk
theorem OneRow.form {w : World} {b : Nat} {X : List Int} {v : Value} (h : OneRow w b X v) : ∃ ad cap, v = .slice ad X.length cap := by
  obtain ⟨ad, cap, e, -⟩ := h; exact ⟨ad, cap, e⟩
theorem OneRow.inn {w : World} {b : Nat} {X : List Int} {v : Value} (h : OneRow w b X v) : IIn w X v := by
  obtain ⟨ad, cap, e, l1, l2, h⟩ := h
  refine ⟨ad, cap, e, l1, l2, h.imp id ?_⟩
  rintro ⟨f, rfl, -, hr, hf⟩
  exact ⟨b, 0, rfl, hr.lt, fun i hi => by rw [Nat.zero_add, hr.cell (by omega), hf i hi]⟩
theorem OneRow.nil (w : World) (b : Nat) (ad : Option Addr) (cap : Nat) (h : cap ≤ maxLen) : OneRow w b [] (.slice ad 0 cap) := ⟨ad, cap, rfl, Nat.zero_le _, h, Or.inl rfl⟩
theorem one_of_row {w : World} {lo : Nat} {X : List Int} {v : Value} (h : IntRow w lo X v) (d : Nat) : ∃ b, OneRow w b X v ∧ ((X ≠ [] ∧ lo ≤ b ∧ b < w.heap.size ∧ v.ownBlock = some b) ∨ b = d) := by
  obtain ⟨ad, cap, e, l1, l2, h⟩ := h
  by_cases hx : X = []
  · exact ⟨d, ⟨ad, cap, e, l1, l2, Or.inl hx⟩, Or.inr rfl⟩
  · rcases h with h | ⟨g, f, rfl, hg, hr, hf⟩
    · exact absurd h hx
    · exact ⟨g, ⟨_, cap, e, l1, l2, Or.inr ⟨f, rfl, by simp, hr, hf⟩⟩, Or.inl ⟨hx, hg, hr.lt, by rw [e]; rfl⟩⟩
theorem markOne_calls (X : List Int) (b : Nat) (v : Value) (k : Int) (w : World) (h : OneRow w b X v) (h0 : 0 ≤ k) (h1 : k + (X.length : Int) ≤ 1152921504606846976) :
    Calls Try.prog 16 #[v, .int .i64 k] w fun e w' => e = .returned (.int .i64 (k + (X.length : Int))) ∧ OneRow w' b (upFrom k X.length) v ∧ ButL [b] w w' :=
  (markK_calls X [b] b v k w h h0 h1).mono fun e w' h => ⟨h.1, h.2.1, h.2.2.1⟩

theorem labC_half2 (g : List Ce) (k : Int) : HalfC g k g.length (labC g k) := ⟨labC_length g k, fun i hi hm => by rw [if_pos hi, labC_get g k i hi]⟩
theorem gmarkG_calls (g : List Ce) (fp : List Nat) (v : Value) (k : Int) (w : World) (h : GOwn w fp g v) (h0 : 0 ≤ k) (h1 : k ≤ 1048576) (hs : g.length + sumK g ≤ 1048576) :
    Calls Try.prog 15 #[v, .int .i64 k] w fun e w' => e = .returned (.int .i64 (k + 2 * (g.length : Int) + (sumK g : Int))) ∧ GOwn w' fp (labC g k) v ∧ ButL fp w w' := by
  obtain ⟨hi, ad, cap, rfl, l1, l2, hr⟩ := h
  rcases hr with rfl | ⟨b, kb, rfl, hb, hr, hd⟩
  · refine (markCells_calls [] fp (.slice ad 0 cap) k w ⟨ad, cap, rfl, l1, l2, Or.inl rfl⟩ h0 (by omega) (by simp [sumN'])).mono ?_
    rintro e w' ⟨rfl, hb⟩
    refine ⟨ret_int (by simp [sumK, sumN']), ⟨fun i hi' => absurd hi' (by simp [labC]), ad, cap, rfl, l1, l2, Or.inl rfl⟩, hb⟩
  · refine (gmark_calls g fp b cap kb k w hr hb hd l1 l2 h0 (by omega) hs).mono ?_
    rintro e w' ⟨rfl, h5, h6⟩
    refine ⟨rfl, ⟨fun i hi' => ?_, some ⟨b, 0, none⟩, cap, by rw [labC_length], by rw [labC_length]; exact l1, l2, Or.inr ⟨b, kb, rfl, hb, h5, (labC_half2 g k).dist hd⟩⟩, h6⟩
    have hl := labC_length g k
    rw [labC_get g k i (by omega) hi']
    have := cLab_le g k i (by omega)
    unfold markedC I64
    simp only
    omega
/-- the rows of a graph that a call has built, but for one block -/
theorem OwnC.ownBut {w : World} {lo : Nat} {S : Nat → Prop} {g : List Ce} {v : Value} (h : OwnC w lo S g v) (b : Nat) (hS : ∀ k, S k → k < w.heap.size → lo ≤ k ∧ k ≠ b) (hv : some b ≠ v.ownBlock) : GOwn w ((List.range' lo (w.heap.size - lo)).filter fun k => k != b) g v := by
  obtain ⟨hi0, xs, kb, h1, h2, h3⟩ := h
  refine ⟨hi0, ?_⟩
  rcases h1.2 with ⟨rfl, h0⟩ | ⟨c, cap, cur, rfl, hg, hh2, hn, hc, hs, htk⟩
  · obtain rfl : g = [] := List.eq_nil_of_length_eq_zero h0
    exact ⟨none, 0, rfl, Nat.le_refl _, by simp [maxLen], Or.inl rfl⟩
  · have hbl : c < w.heap.size := (Array.getElem?_eq_some_iff.1 hh2).1
    have hcb : c ≠ b := fun e => hv (by simp [Value.ownBlock, e])
    refine ⟨_, cap, rfl, hn, hc, Or.inr ⟨c, kb, rfl, by rw [List.mem_filter, List.mem_range'_1]; exact ⟨by omega, by simpa using hcb⟩, ⟨fun i => cur.getD i undef, ⟨cur, hh2, hs, fun i hi => by simp [Array.getD, show i < cur.size by omega]⟩, fun i hi => ?_⟩, h3⟩⟩
    obtain ⟨kv, e0, e1, e2, e3⟩ := h2 i hi
    have get : ∀ m u, m < g.length * 3 → xs[m]? = some u → cur.getD m undef = u := by
      intro m u hm hu
      rw [← htk, List.getElem?_take_of_lt hm] at hu
      have hmc : m < cur.size := by omega
      simp [hmc] at hu
      simp [Array.getD, hmc, hu]
    refine ⟨get _ _ (by omega) e0, get _ _ (by omega) e1, ?_⟩
    simp only []
    rw [get _ _ (by omega) e2]
    obtain ⟨ad2, cap2, e4, l1, l2, h5⟩ := e3
    refine ⟨ad2, cap2, e4, l1, l2, h5.imp id ?_⟩
    rintro ⟨f, rfl, h6, h8, h9⟩
    have h10 := hS _ h6 h8.lt
    exact ⟨f, rfl, by rw [List.mem_filter, List.mem_range'_1]; have := h8.lt; exact ⟨by omega, by simpa using h10.2⟩, h8, h9⟩
/-- what a call hands back: a graph and numbers, in rows of their own -/
def GIRes (G : List Ce) (X : List Int) (gv tv : Value) (w w' : World) : Prop :=
  ∃ fG bL, GOwn w' fG G gv ∧ (∀ k ∈ fG, w.heap.size ≤ k ∧ k < w'.heap.size) ∧ OneRow w' bL X tv ∧ w.heap.size ≤ bL ∧ bL ∉ fG
theorem GIRes.inn {G : List Ce} {X : List Int} {gv tv : Value} {w w' : World} (h : GIRes G X gv tv w w') : CIn w' G gv ∧ IIn w' X tv := by
  obtain ⟨fG, bL, h1, -, h3, -⟩ := h
  exact ⟨h1.inn, h3.inn⟩
theorem gi_res {w w' : World} {lo : Nat} {S : Nat → Prop} {g : List Ce} {gv tv : Value} {X : List Int} (hg : OwnC w' lo S g gv) (hS : ∀ k, S k → lo ≤ k ∧ some k ≠ tv.ownBlock) (ht : IntRow w' lo X tv) (hl : w.heap.size ≤ lo) (hs : lo ≤ w'.heap.size) : GIRes g X gv tv w w' := by
  obtain ⟨b, h1, h2⟩ := one_of_row ht w'.heap.size
  obtain ⟨xs, hx⟩ := hg.row
  have hfp : ∀ k ∈ (List.range' lo (w'.heap.size - lo)).filter (fun k => k != b), w.heap.size ≤ k ∧ k < w'.heap.size := fun k hk => by
    have := (List.mem_filter.1 hk).1
    rw [List.mem_range'_1] at this
    omega
  refine ⟨_, b, hg.ownBut b (fun k hk hkl => ⟨(hS k hk).1, fun e => ?_⟩) (fun e => ?_), hfp, h1, ?_, fun hm => by simpa using (List.mem_filter.1 hm).2⟩
  · rcases h2 with h2 | h2
    · exact (hS k hk).2 (by rw [h2.2.2.2, e])
    · omega
  · rcases h2 with h2 | h2
    · obtain ⟨hne, hlb, hlt, hvb⟩ := h2
      rcases hx.2 with ⟨rfl, -⟩ | ⟨c, cap, cur, rfl, -, hh, -⟩
      · simp [Value.ownBlock] at e
      · simp only [Value.ownBlock, Option.some.injEq] at e
        subst e
        obtain ⟨ad, cap2, e2, -, -, h5⟩ := ht
        rcases h5 with h5 | ⟨g5, f5, rfl, -, ⟨C, hC, -⟩, -⟩
        · exact hne h5
        · rw [e2] at hvb
          simp only [Value.ownBlock, Option.some.injEq] at hvb
          subst hvb
          rw [hh] at hC
          simp only [Option.some.injEq, Obj.cells.injEq] at hC
          exact absurd hC.2.1 (by decide)
    · rcases hx.2 with ⟨rfl, -⟩ | ⟨c, cap, cur, rfl, -, hh, -⟩
      · simp [Value.ownBlock] at e
      · simp only [Value.ownBlock, Option.some.injEq] at e
        have := (Array.getElem?_eq_some_iff.1 hh).1
        omega
  · rcases h2 with h2 | h2 <;> omega
theorem IntRow.shape {w : World} {lo : Nat} {xs : List Int} {v : Value} (h : IntRow w lo xs v) : IShape w (List.range' lo (w.heap.size - lo)) xs.length v := by
  obtain ⟨ad, cap, e, l1, l2, h⟩ := h
  refine ⟨ad, cap, e, l1, l2, ?_⟩
  rcases h with rfl | ⟨b, f, rfl, hb, hr, -⟩
  · exact Or.inl rfl
  · exact Or.inr ⟨b, f, rfl, by rw [List.mem_range'_1]; have := hr.lt; omega, hr⟩
theorem IShape.blocks {fp : List Nat} {w w' : World} {n : Nat} {v : Value} (h : IShape w fp n v) (k : ∀ b ∈ fp, w'.heap[b]? = w.heap[b]?) : IShape w' fp n v := by
  obtain ⟨ad, cap, e, l1, l2, h⟩ := h
  refine ⟨ad, cap, e, l1, l2, h.imp id ?_⟩
  rintro ⟨g, f, rfl, hg, hr⟩
  exact ⟨g, f, rfl, hg, hr.of_block (k g hg)⟩
theorem GIRes.lower {G : List Ce} {X : List Int} {gv tv : Value} {w w1 w' : World} (h : GIRes G X gv tv w1 w') (hl : w.heap.size ≤ w1.heap.size) : GIRes G X gv tv w w' := by
  obtain ⟨fG, bL, h1, h2, h3, h4, h5⟩ := h
  exact ⟨fG, bL, h1, fun k hk => ⟨Nat.le_trans hl (h2 k hk).1, (h2 k hk).2⟩, h3, Nat.le_trans hl h4, h5⟩
end Go.Proofs.Ytjpjikfmdaejeaa
/-
  A COPY OF A GRAPH, AS ROWS THAT MAY BE MARKED.
-/
namespace Go.Proofs.Ytjpjikfmdaejeaa
set_option linter.unusedVariables false
set_option linter.unusedSimpArgs false
open Go.RowKit

theorem CellRow.shape {w : World} {lo : Nat} {g : List Ce} {v : Value} (h : CellRow w lo g v) : CShape w (List.range' lo (w.heap.size - lo)) (g.map (·.kids.length)) v := by
  obtain ⟨ad, cap, e, l1, l2, h⟩ := h
  refine ⟨ad, cap, by rw [List.length_map]; exact e, by rw [List.length_map]; exact l1, l2, ?_⟩
  rcases h with rfl | ⟨b, f, rfl, hb, hr, hf⟩
  · exact Or.inl rfl
  · refine Or.inr ⟨b, f, rfl, by rw [List.mem_range'_1]; have := hr.lt; omega, hr, fun i hi => ?_⟩
    rw [List.length_map] at hi
    obtain ⟨-, -, -, -, ad2, cap2, e2, l3, l4, h2⟩ := hf i hi
    refine ⟨ad2, cap2, by rw [e2]; simp, by simpa using l3, l4, ?_⟩
    rcases h2 with h2 | ⟨b2, f2, rfl, hb2, hr2, -⟩
    · left; simp [h2]
    · exact Or.inr ⟨b2, f2, rfl, by rw [List.mem_range'_1]; have := hr2.lt; omega, hr2⟩
theorem sum_shape (g : List Ce) : sumN' (g.map (·.kids.length)) = sumK g := rfl
end Go.Proofs.Ytjpjikfmdaejeaa
/-
  THE WALK OF FnExactSelectGraph.
-/
namespace Go.Proofs.Ytjpjikfmdaejeaa.lawExactSelectGraph
open Go.ChangeShapes Go.WideShapes Go.ChangeAt Go.RowKit
set_option linter.unusedVariables false
set_option linter.unusedSimpArgs false


set_option maxRecDepth 100000 in
set_option maxHeartbeats 12800000 in
theorem walk (g : List Ce) (cg : Value) (w : World) (hgk : CIn w g cg) :
    Calls Try.prog 6 #[cg] w fun e w' => e = .returned (.bool true) ∧ Below w.heap.size w w' := by
  have HG : Hid (CIn w g cg) := hgk
  obtain ⟨adg, capg, rfl, -, -, -⟩ := hgk
  obtain ⟨G, hG⟩ : ∃ G : List Ce, G = (selO g).1 := ⟨_, rfl⟩
  obtain ⟨r1, hr1⟩ : ∃ r1 : Int, r1 = ((selO g).2 : Int) := ⟨_, rfl⟩
  obtain ⟨r2, hr2⟩ : ∃ r2 : Bool, r2 = graphB g 6 := ⟨_, rfl⟩
  have HGS : Hid (G.length + sumK G ≤ 2000) := by rw [hG]; exact (selO_small g).1
  have HSS : Hid (∀ (u : Value) (W : World), CIn W g u → Calls Try.prog 23 #[u] W fun en w' => ∃ v, en = .returned (.tuple #[v, .int .i64 r1, .bool r2]) ∧ CIn w' G v ∧ Below W.heap.size W w') := fun u W h1 => (specSelG_calls g u W h1).mono fun en w' h => by
    obtain ⟨v, e1, e2, e3⟩ := h
    rw [hG, hr1, hr2]
    exact ⟨v, e1, e2, e3⟩
  have HSI : Hid (∀ (u : Value) (W : World), CIn W g u → Calls Try.prog 24 #[u] W fun en w' => ∃ v, en = .returned (.tuple #[v, .int .i64 r1, .bool r2]) ∧ GOwn w' (List.range' W.heap.size (w'.heap.size - W.heap.size)) G v ∧ Below W.heap.size W w') := fun u W h1 => (implSelG_calls g u W h1).mono fun en w' h => by
    obtain ⟨v, e1, e2, e3⟩ := h
    rw [hG, hr1, hr2]
    exact ⟨v, e1, e2, e3⟩
  clear hG hr1 hr2
  go_enter Try.func6, Try.ntmps6
  have HB_w : Hid (Below w.heap.size w w) := Below.refl _ _
  have hleft0 : (0 : Int) ≤ 1048576 ∧ (1048576 : Int) ≤ 1048576 := by omega
  have hrgC := szC_range g 1048576 (by omega)
  go_wp2_with fail
  refine (szCells_calls g (.slice adg g.length capg) _ _ (HG.out.next HB_w.out) (by omega) (by omega)).mono ?_
  rintro en w1 ⟨rfl, hb⟩
  have HB_w1 : Hid (Below w.heap.size w w1) := HB_w.out.trans (hb.mono HB_w.out.size)
  clear hb
  by_cases hnegc : szC g 1048576 < 0
  · go_wp2_with fail
    go_ret
    exact ⟨rfl, HB_w1.out⟩
  have HZG : Hid (g.length + sumK g ≤ 1048576) := by unfold szC at hnegc; unfold Hid; split at hnegc <;> omega
  generalize szC g 1048576 = leftC at *
  clear hrgC
  go_wp2_with fail
  -- the model's answer
  refine (toCells_calls g (.slice adg g.length capg) w1 (HG.out.next HB_w1.out) HZG.out).mono ?_
  rintro en w2 ⟨sC, rfl, hvsC, hbsC⟩
  have HXw2 : Hid (Below w1.heap.size w1 w2) := hbsC
  have HsC_w2 : Hid (CIn w2 g sC) := hvsC.inn
  clear hvsC hbsC
  go_wp2_with fail
  refine (HSS.out sC w2 HsC_w2.out).mono ?_
  rintro en w3 ⟨vsG, rfl, hres, hbr⟩
  have HXw3 : Hid (Below w1.heap.size w1 w3) := HXw2.out.trans (hbr.mono HXw2.out.size)
  have HRs := mkHid hres
  have HSs : Hid (w2.heap.size ≤ w3.heap.size ∧ w1.heap.size ≤ w2.heap.size) := ⟨hbr.size, HXw2.out.size⟩
  clear hres hbr
  have HB_w3 : Hid (Below w.heap.size w w3) := HB_w1.out.trans (HXw3.out.mono HB_w1.out.size)
  have S0 : Hid (w.heap.size ≤ w3.heap.size) := HB_w3.out.size
  have LE_w3 : Hid (w3.heap.size ≤ w3.heap.size) := Nat.le_refl _
  have W0_w3 : Hid (CellsOn w3 (Lt w3.heap.size) G vsG) := HRs.out
  -- the program's arguments
  go_wp2_with fail
  refine (toCells_calls g (.slice adg g.length capg) _ (HG.out.next HB_w3.out) HZG.out).mono ?_
  rintro en w4 ⟨xC, rfl, hv, hb⟩
  obtain ⟨fC, hfC⟩ : ∃ fC, fC = List.range' w3.heap.size (w4.heap.size - w3.heap.size) := ⟨_, rfl⟩
  have S1 : Hid (w3.heap.size ≤ w4.heap.size) := hb.size
  have HF_fC : Hid (True ∧ ∀ k ∈ fC, w3.heap.size ≤ k ∧ k < w4.heap.size) := ⟨trivial, fun k hk => by rw [hfC, List.mem_range'_1] at hk; have := S1.out; omega⟩
  have LE_w4 : Hid (w3.heap.size ≤ w4.heap.size) := Nat.le_trans LE_w3.out hb.size
  have W0_w4 : Hid (CellsOn w4 (Lt w3.heap.size) G vsG) := W0_w3.out.mono (fun _ hk => hk) fun k hk => hb.block k (Nat.lt_of_lt_of_le hk LE_w3.out)
  have HB_w4 : Hid (Below w.heap.size w w4) := HB_w3.out.trans (hb.mono HB_w3.out.size)
  have ZfC_w4 : Hid (w4.heap.size ≤ w4.heap.size) := Nat.le_refl _
  have XC_w4 : Hid (CIn w4 g xC) := hv.inn
  have KC_w4 : Hid (CShape w4 fC (g.map (·.kids.length)) xC) := by rw [Hid, hfC]; exact CellRow.shape hv
  clear hv hb hfC
  go_wp2_with fail
  -- the program's answer
  refine (HSI.out xC _ XC_w4.out).mono ?_
  rintro en w5 ⟨gG, rfl, hres, hb⟩
  have SR : Hid (w4.heap.size ≤ w5.heap.size) := hb.size
  obtain ⟨fG, hfG⟩ : ∃ fG, fG = List.range' w4.heap.size (w5.heap.size - w4.heap.size) := ⟨_, rfl⟩
  have HF_fG : Hid (True ∧ ∀ k ∈ fG, w4.heap.size ≤ k ∧ k < w5.heap.size) := ⟨trivial, fun k hk => by rw [hfG, List.mem_range'_1] at hk; have := SR.out; omega⟩
  rw [← hfG] at hres
  have LE_w5 : Hid (w3.heap.size ≤ w5.heap.size) := Nat.le_trans LE_w4.out hb.size
  have W0_w5 : Hid (CellsOn w5 (Lt w3.heap.size) G vsG) := W0_w4.out.mono (fun _ hk => hk) fun k hk => hb.block k (Nat.lt_of_lt_of_le hk LE_w4.out)
  have ZfC_w5 : Hid (w4.heap.size ≤ w5.heap.size) := Nat.le_trans ZfC_w4.out hb.size
  have XC_w5 : Hid (CIn w5 g xC) := XC_w4.out.next hb
  have KC_w5 : Hid (CShape w5 fC (g.map (·.kids.length)) xC) := CShape.blocks KC_w4.out fun b hb9 => hb.block b (Nat.lt_of_lt_of_le (HF_fC.out.2 b hb9).2 ZfC_w4.out)
  have HB_w5 : Hid (Below w.heap.size w w5) := HB_w4.out.trans (hb.mono HB_w4.out.size)
  have GO_w5 : Hid (GOwn w5 fG G gG) := hres
  have ZfG_w5 : Hid (w5.heap.size ≤ w5.heap.size) := Nat.le_refl _
  clear hb hres hfG
  have t1 : (r1 != r1) = false := by simp
  have t2 : (r2 != r2) = false := by simp
  go_wp2_with fail
  refine (eqCells_calls G _ _ _ GO_w5.out.inn (W0_w5.out.mono (fun k hk => Nat.lt_of_lt_of_le hk LE_w5.out) fun _ _ => rfl)).mono ?_
  rintro en w6 ⟨rfl, hb⟩
  have LE_w6 : Hid (w3.heap.size ≤ w6.heap.size) := Nat.le_trans LE_w5.out hb.size
  have W0_w6 : Hid (CellsOn w6 (Lt w3.heap.size) G vsG) := W0_w5.out.mono (fun _ hk => hk) fun k hk => hb.block k (Nat.lt_of_lt_of_le hk LE_w5.out)
  have ZfC_w6 : Hid (w4.heap.size ≤ w6.heap.size) := Nat.le_trans ZfC_w5.out hb.size
  have XC_w6 : Hid (CIn w6 g xC) := XC_w5.out.next hb
  have KC_w6 : Hid (CShape w6 fC (g.map (·.kids.length)) xC) := CShape.blocks KC_w5.out fun b hb9 => hb.block b (Nat.lt_of_lt_of_le (HF_fC.out.2 b hb9).2 ZfC_w5.out)
  have GO_w6 : Hid (GOwn w6 fG G gG) := GO_w5.out.keep fun k hk _ => hb.block k (Nat.lt_of_lt_of_le (HF_fG.out.2 k hk).2 ZfG_w5.out)
  have ZfG_w6 : Hid (w5.heap.size ≤ w6.heap.size) := Nat.le_trans ZfG_w5.out hb.size
  have HB_w6 : Hid (Below w.heap.size w w6) := HB_w5.out.trans (hb.mono HB_w5.out.size)
  clear hb
  go_wp2_with fail
  refine (toCells_calls g (.slice adg g.length capg) _ (HG.out.next HB_w6.out) HZG.out).mono ?_
  rintro en w7 ⟨yC, rfl, hvyC, hbyC⟩
  have LE_w7 : Hid (w3.heap.size ≤ w7.heap.size) := Nat.le_trans LE_w6.out hbyC.size
  have W0_w7 : Hid (CellsOn w7 (Lt w3.heap.size) G vsG) := W0_w6.out.mono (fun _ hk => hk) fun k hk => hbyC.block k (Nat.lt_of_lt_of_le hk LE_w6.out)
  have ZfC_w7 : Hid (w4.heap.size ≤ w7.heap.size) := Nat.le_trans ZfC_w6.out hbyC.size
  have XC_w7 : Hid (CIn w7 g xC) := XC_w6.out.next hbyC
  have KC_w7 : Hid (CShape w7 fC (g.map (·.kids.length)) xC) := CShape.blocks KC_w6.out fun b hb9 => hbyC.block b (Nat.lt_of_lt_of_le (HF_fC.out.2 b hb9).2 ZfC_w6.out)
  have GO_w7 : Hid (GOwn w7 fG G gG) := GO_w6.out.keep fun k hk _ => hbyC.block k (Nat.lt_of_lt_of_le (HF_fG.out.2 k hk).2 ZfG_w6.out)
  have ZfG_w7 : Hid (w5.heap.size ≤ w7.heap.size) := Nat.le_trans ZfG_w6.out hbyC.size
  have HB_w7 : Hid (Below w.heap.size w w7) := HB_w6.out.trans (hbyC.mono HB_w6.out.size)
  have HY : Hid (CIn w7 g yC) := hvyC.inn
  clear hvyC hbyC
  go_wp2_with fail
  refine (eqCells_calls g xC yC _ XC_w7.out HY.out).mono ?_
  rintro en w8 ⟨rfl, hb⟩
  clear HY
  have LE_w8 : Hid (w3.heap.size ≤ w8.heap.size) := Nat.le_trans LE_w7.out hb.size
  have W0_w8 : Hid (CellsOn w8 (Lt w3.heap.size) G vsG) := W0_w7.out.mono (fun _ hk => hk) fun k hk => hb.block k (Nat.lt_of_lt_of_le hk LE_w7.out)
  have ZfC_w8 : Hid (w4.heap.size ≤ w8.heap.size) := Nat.le_trans ZfC_w7.out hb.size
  have XC_w8 : Hid (CIn w8 g xC) := XC_w7.out.next hb
  have KC_w8 : Hid (CShape w8 fC (g.map (·.kids.length)) xC) := CShape.blocks KC_w7.out fun b hb9 => hb.block b (Nat.lt_of_lt_of_le (HF_fC.out.2 b hb9).2 ZfC_w7.out)
  have GO_w8 : Hid (GOwn w8 fG G gG) := GO_w7.out.keep fun k hk _ => hb.block k (Nat.lt_of_lt_of_le (HF_fG.out.2 k hk).2 ZfG_w7.out)
  have ZfG_w8 : Hid (w5.heap.size ≤ w8.heap.size) := Nat.le_trans ZfG_w7.out hb.size
  have HB_w8 : Hid (Below w.heap.size w w8) := HB_w7.out.trans (hb.mono HB_w7.out.size)
  clear hb
  -- the arguments are marked
  go_wp2_with fail
  refine (markCells_calls _ fC xC 1 w8 KC_w8.out (by omega) (by omega) (by rw [sum_shape, List.length_map]; exact HZG.out)).mono ?_
  rintro en w9 ⟨rfl, hb⟩
  have LE_w9 : Hid (w3.heap.size ≤ w9.heap.size) := Nat.le_trans LE_w8.out hb.size
  have W0_w9 : Hid (CellsOn w9 (Lt w3.heap.size) G vsG) := W0_w8.out.mono (fun _ hk => hk) fun k (hk : k < _) => hb.block k (Nat.lt_of_lt_of_le hk LE_w8.out) (fun h => by have := (HF_fC.out.2 _ h); have := S0.out; have := S1.out; have := SR.out; omega)
  have GO_w9 : Hid (GOwn w9 fG G gG) := GO_w8.out.keep fun b hb9 _ => hb.block b (Nat.lt_of_lt_of_le (HF_fG.out.2 b hb9).2 ZfG_w8.out) (fun h => by have := (HF_fC.out.2 _ h); have := (HF_fG.out.2 _ hb9); have := S0.out; have := S1.out; have := SR.out; omega)
  have ZfG_w9 : Hid (w5.heap.size ≤ w9.heap.size) := Nat.le_trans ZfG_w8.out hb.size
  have HB_w9 : Hid (Below w.heap.size w w9) := HB_w8.out.trans (hb.below (fun k h => by have := (HF_fC.out.2 _ h); have := S0.out; have := S1.out; have := SR.out; omega) HB_w8.out.size)
  clear hb
  have hkB : ((2 * (g.map (·.kids.length)).length + sumN' (g.map (·.kids.length)) : Nat) : Int) ≤ 2097152 := by rw [sum_shape, List.length_map]; have := HZG.out; omega
  obtain ⟨kC, hkC⟩ : ∃ kC : Int, kC = 1 + ((2 * (g.map (·.kids.length)).length + sumN' (g.map (·.kids.length)) : Nat) : Int) := ⟨_, rfl⟩
  rw [← hkC]
  have hkC0 : 0 ≤ kC := by omega
  have hkC1 : kC ≤ 1 + 2097152 := by omega
  clear hkC hkB
  go_wp2_with fail
  refine (eqCells_calls G _ _ _ GO_w9.out.inn (W0_w9.out.mono (fun k hk => Nat.lt_of_lt_of_le hk LE_w9.out) fun _ _ => rfl)).mono ?_
  rintro en w10 ⟨rfl, hb⟩
  have LE_w10 : Hid (w3.heap.size ≤ w10.heap.size) := Nat.le_trans LE_w9.out hb.size
  have W0_w10 : Hid (CellsOn w10 (Lt w3.heap.size) G vsG) := W0_w9.out.mono (fun _ hk => hk) fun k hk => hb.block k (Nat.lt_of_lt_of_le hk LE_w9.out)
  have GO_w10 : Hid (GOwn w10 fG G gG) := GO_w9.out.keep fun k hk _ => hb.block k (Nat.lt_of_lt_of_le (HF_fG.out.2 k hk).2 ZfG_w9.out)
  have ZfG_w10 : Hid (w5.heap.size ≤ w10.heap.size) := Nat.le_trans ZfG_w9.out hb.size
  have HB_w10 : Hid (Below w.heap.size w w10) := HB_w9.out.trans (hb.mono HB_w9.out.size)
  clear hb
  go_wp2_with fail
  -- the answer is marked
  refine (gmarkG_calls G fG _ 1 w10 GO_w10.out (by omega) (by omega) (by have := HGS.out; omega)).mono ?_
  rintro en w11 ⟨rfl, hk9, hb⟩
  have LE_w11 : Hid (w3.heap.size ≤ w11.heap.size) := Nat.le_trans LE_w10.out hb.size
  have W0_w11 : Hid (CellsOn w11 (Lt w3.heap.size) G vsG) := W0_w10.out.mono (fun _ hk => hk) fun k (hk : k < _) => hb.block k (Nat.lt_of_lt_of_le hk LE_w10.out) (fun h => by have := (HF_fG.out.2 _ h); have := S0.out; have := S1.out; have := SR.out; omega)
  have HB_w11 : Hid (Below w.heap.size w w11) := HB_w10.out.trans (hb.below (fun k h => by have := (HF_fG.out.2 _ h); have := S0.out; have := S1.out; have := SR.out; omega) HB_w10.out.size)
  have GL_w11 : Hid (GOwn w11 fG (labC G 1) gG) := hk9
  clear hb hk9
  obtain ⟨mG, hmG⟩ : ∃ mG : Int, mG = 1 + 2 * (G.length : Int) + (sumK G : Int) := ⟨_, rfl⟩
  have HMG := mkHid hmG
  have hmG0 : 0 ≤ mG ∧ mG ≤ 1048576 := by have := HGS.out; omega
  rw [← hmG]
  clear hmG
  go_wp2_with fail
  refine (gheld_calls G _ 1 w11 GL_w11.out.inn (by omega) (by omega) (by have := HGS.out; omega)).mono ?_
  rintro en w12 ⟨rfl, hb⟩
  rw [← HMG.out]
  have LE_w12 : Hid (w3.heap.size ≤ w12.heap.size) := Nat.le_trans LE_w11.out hb.size
  have W0_w12 : Hid (CellsOn w12 (Lt w3.heap.size) G vsG) := W0_w11.out.mono (fun _ hk => hk) fun k hk => hb.block k (Nat.lt_of_lt_of_le hk LE_w11.out)
  have GL_w12 : Hid (GOwn w12 fG (labC G 1) gG) := GL_w11.out.keep fun k _ hk2 => hb.block k hk2
  have HB_w12 : Hid (Below w.heap.size w w12) := HB_w11.out.trans (hb.mono HB_w11.out.size)
  clear hb
  have tm : (mG != mG) = false := by simp
  go_wp2_with fail
  -- called once more
  refine (toCells_calls g (.slice adg g.length capg) w12 (HG.out.next HB_w12.out) HZG.out).mono ?_
  rintro en w13 ⟨hC, rfl, hvhC, hbhC⟩
  have HXw13 : Hid (Below w12.heap.size w12 w13) := hbhC
  have HhC_w13 : Hid (CIn w13 g hC) := hvhC.inn
  clear hvhC hbhC
  go_wp2_with fail
  refine (HSI.out hC w13 HhC_w13.out).mono ?_
  rintro en w14 ⟨vhG, rfl, hres, hbr⟩
  have HXw14 : Hid (Below w12.heap.size w12 w14) := HXw13.out.trans (hbr.mono HXw13.out.size)
  have HRh := mkHid hres
  have HSh : Hid (w13.heap.size ≤ w14.heap.size ∧ w12.heap.size ≤ w13.heap.size) := ⟨hbr.size, HXw13.out.size⟩
  clear hres hbr
  have LE_w14 : Hid (w3.heap.size ≤ w14.heap.size) := Nat.le_trans LE_w12.out HXw14.out.size
  have W0_w14 : Hid (CellsOn w14 (Lt w3.heap.size) G vsG) := W0_w12.out.mono (fun _ hk => hk) fun k hk => HXw14.out.block k (Nat.lt_of_lt_of_le hk LE_w12.out)
  have GL_w14 : Hid (GOwn w14 fG (labC G 1) gG) := GL_w12.out.keep fun k _ hk2 => HXw14.out.block k hk2
  have HB_w14 : Hid (Below w.heap.size w w14) := HB_w12.out.trans (HXw14.out.mono HB_w12.out.size)
  have HGH := HRh
  go_wp2_with fail
  refine (eqCells_calls G _ _ _ HGH.out.inn (W0_w14.out.mono (fun k hk => Nat.lt_of_lt_of_le hk LE_w14.out) fun _ _ => rfl)).mono ?_
  rintro en w15 ⟨rfl, hb⟩
  have LE_w15 : Hid (w3.heap.size ≤ w15.heap.size) := Nat.le_trans LE_w14.out hb.size
  have W0_w15 : Hid (CellsOn w15 (Lt w3.heap.size) G vsG) := W0_w14.out.mono (fun _ hk => hk) fun k hk => hb.block k (Nat.lt_of_lt_of_le hk LE_w14.out)
  have GL_w15 : Hid (GOwn w15 fG (labC G 1) gG) := GL_w14.out.keep fun k _ hk2 => hb.block k hk2
  have HB_w15 : Hid (Below w.heap.size w w15) := HB_w14.out.trans (hb.mono HB_w14.out.size)
  clear hb
  go_wp2_with fail
  refine (gheld_calls G _ 1 w15 GL_w15.out.inn (by omega) (by omega) (by have := HGS.out; omega)).mono ?_
  rintro en w16 ⟨rfl, hb⟩
  rw [← HMG.out]
  have GL_w16 : Hid (GOwn w16 fG (labC G 1) gG) := GL_w15.out.keep fun k _ hk2 => hb.block k hk2
  have HB_w16 : Hid (Below w.heap.size w w16) := HB_w15.out.trans (hb.mono HB_w15.out.size)
  clear hb
  go_wp2_with fail
  go_ret
  exact ⟨rfl, HB_w16.out⟩
end Go.Proofs.Ytjpjikfmdaejeaa.lawExactSelectGraph
