/-
  THE MODEL's CopyGraph (a text of its own: its step's name is that of another text's).
-/
import Derived.Test.YtglpehelmlehiaaMb17
namespace Go.Proofs.Ytglpehelmlehiaa
set_option linter.unusedVariables false
set_option linter.unusedSimpArgs false
open Go.RowKit

theorem cp_step5 {wo wr w5 : World} {o n : Int} {ws : List Nat} {kv kv' : Value} {m : Nat} {obj : Obj} (h : CpRel5 wo o n ws kv wr) (hst : Stk w5 (wo.heap.size + 1) (ws ++ [m]) kv') (hg : (wr.alloc obj).drew.grownBy w5 kv.ownBlock) :
    CpRel5 wo o n (ws ++ [m]) kv' (w5.setCell ⟨wo.heap.size, 2, none⟩ kv') := by
  have hl := (Array.getElem?_eq_some_iff.1 h.box).1
  have hk : Stk (wr.alloc obj).drew (wo.heap.size + 1) ws kv := h.kids.alloc obj
  have hb : Below wo.heap.size wo (wr.alloc obj).drew := (h.bel.alloc h.bel.size obj).drew
  refine ⟨box_set (c := kv) ?_ _, hst.keep fun b h1 h2 => Below.heap_setCell _ _ _ _ (by show b ≠ wo.heap.size; omega), (push_below hk hb (Nat.le_succ _) hg (Nat.le_refl _)).setCell (Nat.le_refl _) _⟩
  refine (push_keep hk hg (Nat.le_refl _) (by show wo.heap.size < (wr.alloc obj).heap.size; rw [Deep.nblk_alloc]; omega)).trans ((Deep.blk_alloc_lt _ _ _ hl).trans h.box)

set_option maxRecDepth 100000 in
set_option maxHeartbeats 3200000 in
theorem l5CopyH_calls (g : List Ce) (rs : List Nat) (v rv : Value) (w : World) (hk : CIn w g v) (hr : IIn w (plI rs) rv) (hg : graphB g 6 = true) (hlt : ∀ x ∈ rs, x < g.length) (h20 : rs.length ≤ 20) :
    Calls Try.prog 77 #[v, rv] w (NewGI (copyG g rs) (topsG g rs) w) := by
  have HK : Hid (CIn w g v) := hk
  have HR : Hid (IIn w (plI rs) rv) := hr
  have HG : Hid (graphB g 6 = true) := hg
  have HLT : Hid (∀ x ∈ rs, x < g.length) := hlt
  have h400 : g.length ≤ 400 := graphB_len hg
  have HVC : Hid (copyG g rs = (orderG g rs).map (cpCell g (orderG g rs))) := rfl
  have HVT : Hid (topsG g rs = rs.map (posN (orderG g rs))) := rfl
  obtain ⟨o, hoo⟩ : ∃ o, o = orderG g rs := ⟨_, rfl⟩
  have HOO : Hid (o = orderG g rs) := hoo
  have HCS : Hid (Cs g.length o) := by rw [hoo]; exact order_cs hg hlt
  have HCL : Hid (∀ a ∈ o, ∀ k ∈ kidsN g a, k ∈ o) := by rw [hoo]; exact order_closed hg hlt
  have HRT : Hid (∀ x ∈ rs, x ∈ o) := by rw [hoo]; exact order_root hg hlt
  have hol : o.length ≤ g.length := HCS.out.len
  obtain ⟨ad, cap, rfl, hl, hm, -⟩ := hk
  obtain ⟨adr, capr, rfl, hlr, hmr⟩ := pl_form hr
  unfold maxLen at hm hmr
  clear hg hlt hr hoo
  go_enter Try.func77, Try.ntmps77
  go_wp2_with fail
  refine (l5Order_calls g rs _ _ _ HK.out HR.out HG.out HLT.out h20).mono ?_
  rintro e w1 ⟨ov, rfl, hst, hb1⟩
  rw [← HOO.out] at hst
  have HS1 : Hid (IIn w1 (plI o) ov) := hst.pin
  have HB1 : Hid (Below w.heap.size w w1) := hb1
  obtain ⟨ado, capo, rfl, hlo, hmo⟩ := pl_form hst.pin
  unfold maxLen at hmo
  clear hst hb1
  go_wp2_with fail
  refine (l5Places_calls g.length o _ _ HS1.out HCS.out h400).mono ?_
  rintro e w2 ⟨bp, rfl, hbp, hpl, hb2⟩
  have HPL : Hid (PlW w2 bp g.length o) := hpl
  have hbpl : bp < w2.heap.size := hpl.lt
  have HS2 : Hid (IIn w2 (plI o) (.slice ado o.length capo)) := HS1.out.next hb2
  have HB2 : Hid (Below w.heap.size w w2) := HB1.out.trans (hb2.mono HB1.out.size)
  have HSTA : Hid (OwnC (w2.alloc (.cells #[] 48)) w2.heap.size (fun b => w2.heap.size ≤ b) ((o.take 0).map (cpCell g o)) (.slice (some ⟨w2.heap.size, 0, none⟩) 0 0)) :=
    ⟨fun i h => absurd h (by simp), [], fun _ => 0, ⟨rfl, Or.inr ⟨w2.heap.size, 0, #[], rfl, Nat.le_refl _, Deep.blk_alloc_new _ _, Nat.le_refl _, by simp [maxLen], rfl, rfl⟩⟩, fun j hj => absurd hj (by simp), fun i j hi _ => absurd hi (by simp)⟩
  clear hpl hb2
  go_wp2_with fail
  go_loopw [8, 9] (fun out i wr => ∃ k : Nat, k ≤ o.length ∧ i = .int .i64 k ∧ OwnC wr w2.heap.size (fun b => w2.heap.size ≤ b) ((o.take k).map (cpCell g o)) out ∧ Below w2.heap.size w2 wr) (fun _ i _ => o.length - (intOf i).toNat)
  case atStart => exact ⟨0, Nat.zero_le _, rfl, HSTA.out, box_below _ _⟩
  case round =>
    obtain ⟨k, hk, rfl, hown, hb⟩ := hrel
    obtain ⟨wo, rfl⟩ : ∃ wo : World, wo = wr := ⟨_, rfl⟩
    have HO : Hid (OwnC wo w2.heap.size (fun b => w2.heap.size ≤ b) ((o.take k).map (cpCell g o)) u8) := hown
    have HB : Hid (Below w2.heap.size w2 wo) := hb
    have hsz := hb.size
    have HTL : Hid (((o.take k).map (cpCell g o)).length = k) := by rw [Hid, List.length_map, List.length_take]; omega
    obtain ⟨ad8, cap8, rfl⟩ := hown.form
    rw [HTL.out]
    by_cases hlt : k < o.length
    · obtain ⟨blo, offo, a, rfl, hblo, ha, ham, dow⟩ := pl_at HS2.out k hlt
      have hal := HCS.out.2 a ham
      obtain ⟨bl, off, r2, rfl, c0w, c1w, c2w, io, iN, hkk⟩ := (HK.out.next HB2.out).at a hal
      have HLW : Hid (bl < w2.heap.size) := cell_lt c0w
      have c0 := (hb.cell (p := ⟨bl, off + a * 3, none⟩) HLW.out).trans c0w
      have c1 := (hb.cell (p := ⟨bl, off + a * 3 + 1, none⟩) HLW.out).trans c1w
      have co := (hb.cell (p := ⟨blo, offo + k, none⟩) hblo).trans dow
      have HC2 : Hid (w2.cell? ⟨bl, off + a * 3 + 2, none⟩ = some r2) := c2w
      have HD : Hid (w2.cell? ⟨blo, offo + k, none⟩ = some (.int .i64 (a : Int))) := dow
      have HKK : Hid (IIn w2 (plI (kidsN g a)) r2) := kids_pl HG.out hal hkk
      have HIO : Hid (I64 g[a].op ∧ I64 g[a].num) := ⟨io, iN⟩
      clear c0w c1w c2w dow hkk hown hb io iN
      have lo1 := cell_lt co
      have lg1 := cell_lt c0
      go_wp2_with fail
      go_region_held3 (fun w' => w'.cell? ⟨blo, offo + k, none⟩ = some (.int .i64 (a : Int)) ∧ w'.cell? ⟨bl, off + a * 3, none⟩ = some (.int .i64 g[a].op) ∧ w'.cell? ⟨bl, off + a * 3 + 1, none⟩ = some (.int .i64 g[a].num))
        (first
          | go_keep
          | exact ⟨co, c0, c1⟩
          | exact ⟨old_cell co _, old_cell c0 _, old_cell c1 _⟩)
        (first
          | fail)
      obtain ⟨ks, hks⟩ : ∃ ks, ks = kidsN g a := ⟨_, rfl⟩
      rw [← hks] at HKK
      have HKS : Hid (ks = kidsN g a) := hks
      obtain ⟨adk, capk, rfl, hlk, hmk⟩ := pl_form HKK.out
      unfold maxLen at hmk
      have hk3 : ks.length ≤ 3 := by rw [hks]; exact kidsN_len HG.out a hal
      have HKL : Hid (∀ x ∈ ks, x < g.length ∧ x ∈ o) := by rw [hks]; exact fun x hx => ⟨kidsN_lt HG.out a hal x hx, HCL.out a ham x hx⟩
      have HCP0 : Hid (CpRel5 wo g[a].op g[a].num ((ks.take 0).map (posN o)) (.slice none 0 0) ((wo.alloc (.cells #[.int .i64 g[a].op, .int .i64 g[a].num, .slice none 0 0] 48)).drew)) :=
        ⟨Deep.blk_alloc_new wo _, World.ownsRow_nil _ _ _ _, (box_below wo _).drew⟩
      have HA : Hid (o[k]? = some a) := ha
      clear co c0 c1 hks ha
      go_wp2_with fail
      go_loopw [11] (fun z wr => ∃ (q : Nat) (kv : Value), q ≤ ks.length ∧ z = .int .i64 q ∧ CpRel5 wo g[a].op g[a].num ((ks.take q).map (posN o)) kv wr) (fun z _ => ks.length - (intOf z).toNat)
      case atStart => exact ⟨0, _, Nat.zero_le _, rfl, HCP0.out⟩
      case round =>
        obtain ⟨q, kv, hq, rfl, hcp⟩ := hrel
        have HCP : Hid (CpRel5 wo g[a].op g[a].num ((ks.take q).map (posN o)) kv wr) := hcp
        have HBW : Hid (Below w2.heap.size w2 wr) := HB.out.trans (hcp.bel.mono hsz)
        have hsw := hcp.bel.size
        have hbl := hcp.box
        have hblt : wo.heap.size < wr.heap.size := (Array.getElem?_eq_some_iff.1 hbl).1
        have b2 := cell_of_blk hbl 2 _ rfl
        have co := (HBW.out.cell (p := ⟨blo, offo + k, none⟩) hblo).trans HD.out
        have c2 := (HBW.out.cell (p := ⟨bl, off + a * 3 + 2, none⟩) HLW.out).trans HC2.out
        have hkl : ((ks.take q).map (posN o)).length = q := by rw [List.length_map, List.length_take]; omega
        have HLQ : Hid (((ks.take q).map (posN o)).length = q) := hkl
        have HKV : Hid (Stk wr (wo.heap.size + 1) ((ks.take q).map (posN o)) kv) := hcp.kids
        obtain ⟨adv, capv, rfl⟩ : ∃ adv capv, kv = .slice adv q capv := by obtain ⟨x, y, e⟩ := hcp.kids.len; rw [hkl] at e; exact ⟨x, y, e⟩
        have HBX : Hid (wr.heap[wo.heap.size]? = some (.cells #[.int .i64 g[a].op, .int .i64 g[a].num, .slice adv q capv] 48)) := hbl
        clear hcp hbl hkl
        by_cases hltq : q < ks.length
        · obtain ⟨blk, offk, x, rfl, hblk, hx, hxm, dkw⟩ := pl_at HKK.out q hltq
          obtain ⟨hxl, hxo⟩ := HKL.out x hxm
          have dk := (HBW.out.cell (p := ⟨blk, offk + q, none⟩) hblk).trans dkw
          have dpw := HPL.out.cell (i := x) hxl
          have dp := (HBW.out.cell (p := ⟨bp, x, none⟩) hbpl).trans dpw
          rw [placeV_in hxo] at dp
          have HX : Hid (ks[q]? = some x) := hx
          obtain ⟨m, hm2⟩ : ∃ m, m = posN o x := ⟨_, rfl⟩
          have HM : Hid (m = posN o x) := hm2
          rw [← hm2] at dp
          have l1 := cell_lt co
          have l2 := cell_lt c2
          have l3 := cell_lt dk
          have l4 := cell_lt dp
          have b2a := old_cell b2 (.cells #[.int .i64 (m : Int)] 3)
          have HBX1 : Hid ((wr.alloc (.cells #[.int .i64 (m : Int)] 3)).drew.heap[wo.heap.size]? = some (.cells #[.int .i64 g[a].op, .int .i64 g[a].num, .slice adv q capv] 48)) := (Deep.blk_alloc_lt _ _ _ hblt).trans HBX.out
          have HKV1 : Hid (Stk (wr.alloc (.cells #[.int .i64 (m : Int)] 3)).drew (wo.heap.size + 1) ((ks.take q).map (posN o)) (.slice adv q capv)) := HKV.out.alloc _
          have HK1 : Hid (IIn (wr.alloc (.cells #[.int .i64 (m : Int)] 3)).drew [(m : Int)] (.slice (some ⟨wr.heap.size, 0, none⟩) 1 1)) := one_in wr m
          have HLO1 : Hid (wo.heap.size + 1 ≤ (wr.alloc (.cells #[.int .i64 (m : Int)] 3)).drew.heap.size) := by show _ ≤ (wr.alloc _).heap.size; rw [Deep.nblk_alloc]; omega
          have b2b : (wr.alloc (.cells #[.int .i64 (m : Int)] 3)).drew.cell? ⟨wo.heap.size, 2, none⟩ = _ := b2a
          have co1 : (wr.alloc (.cells #[.int .i64 (m : Int)] 3)).drew.cell? ⟨blo, offo + k, none⟩ = _ := old_cell co (.cells #[.int .i64 (m : Int)] 3)
          have c21 : (wr.alloc (.cells #[.int .i64 (m : Int)] 3)).drew.cell? ⟨bl, off + a * 3 + 2, none⟩ = _ := old_cell c2 (.cells #[.int .i64 (m : Int)] 3)
          have dk1 : (wr.alloc (.cells #[.int .i64 (m : Int)] 3)).drew.cell? ⟨blk, offk + q, none⟩ = _ := old_cell dk (.cells #[.int .i64 (m : Int)] 3)
          have dp1 : (wr.alloc (.cells #[.int .i64 (m : Int)] 3)).drew.cell? ⟨bp, x, none⟩ = _ := old_cell dp (.cells #[.int .i64 (m : Int)] 3)
          have HSS := mkHid (And.intro b2b (And.intro co1 (And.intro c21 (And.intro dk1 dp1))))
          have b2c : wr.drew.cell? ⟨wo.heap.size, 2, none⟩ = _ := b2
          clear hx hxm dkw dpw hm2
          go_wp2_with fail
          go_region_law (first
              | (refine step_push (by rfl) (.tmp 59) (.tmp 74) (by rfl) (wo.heap.size + 1) ((ks.take q).map (posN o)) [m] (.slice adv q capv) (.slice (some ⟨wr.heap.size, 0, none⟩) 1 1) (by rfl) HKV1.out (by rfl) HK1.out rfl HLO1.out (by rw [HLQ.out]; simp; omega) ?_; intro v5 w5 hst5 hg5; go_must (obtain ⟨ad6, cap6, rfl⟩ := stk_form hst5 HLQ.out); have HST5 := mkHid hst5; have HG5 := mkHid hg5; go_must (have s5 := cell_push HSS.out.1 HKV1.out hg5 (Nat.le_refl _); have s1 := cell_push HSS.out.2.1 HKV1.out hg5 (by show blo ≤ _; omega); have s2 := cell_push HSS.out.2.2.1 HKV1.out hg5 (by show bl ≤ _; omega); have s3 := cell_push HSS.out.2.2.2.1 HKV1.out hg5 (by show blk ≤ _; omega); have s4 := cell_push HSS.out.2.2.2.2 HKV1.out hg5 (by show bp ≤ _; omega); have sf := frz_push HBX1.out HKV1.out hg5 (Nat.le_refl _) 2); clear hst5 hg5))
          all_goals
            have HCP2 : Hid (CpRel5 wo g[a].op g[a].num ((ks.take (q + 1)).map (posN o)) (.slice ad6 (q + 1) cap6) (w5.setCell ⟨wo.heap.size, 2, none⟩ (.slice ad6 (q + 1) cap6))) := by
              rw [Hid, take_snoc HX.out, List.map_append, List.map_singleton, ← HM.out]
              exact cp_step5 HCP.out HST5.out HG5.out
            clear s1 s2 s3 s4 s5 sf
            go_wp2_with fail
            go_roundw
            case rel => exact ⟨q + 1, _, by omega, by go_num, HCP2.out⟩
            case measure => simp [intOf]; omega
        · have hqe : q = ks.length := by omega
          have HWS : Hid ((ks.take q).map (posN o) = (kidsN g a).map (posN o)) := by rw [Hid, hqe, List.take_length, HKS.out]
          have r0 := cell_of_blk HBX.out 0 _ rfl
          have r1 := cell_of_blk HBX.out 1 _ rfl
          obtain ⟨xs, hx⟩ := HO.out.row
          rw [HTL.out] at hx
          have HX : Hid (wo.ownsRow w2.heap.size 48 3 (.slice ad8 k cap8) k xs) := hx
          have HX1 : Hid ((wr.alloc (.cells #[.int .i64 g[a].op, .int .i64 g[a].num, .slice adv q capv] 48)).ownsRow w2.heap.size 48 3 (.slice ad8 k cap8) k xs) := copy_own hx HCP.out.bel _
          obtain ⟨iC, zC, hII⟩ := infoC1
          have HII : Hid (Try.prog.info? 48 = some iC ∧ iC.zero = some zC ∧ iC.size = 3 ∧ iC.bytes = 40 ∧ zC.cells.size = 3) := hII
          have HBO := HCP.out.bel
          clear hx hII hqe
          go_wp2_with (at_builtin; go_must (refine wpList_append_where _ rfl _ _ 24 rfl w2.heap.size 48 iC zC 3 40 Try.underlying24 HII.out.1 HII.out.2.1 HII.out.2.2.1 HII.out.2.2.2.1 HII.out.2.2.2.2 (by decide) (.slice ad8 k cap8) k xs rfl HX1.out ⟨wr.heap.size, 0, none⟩ 1 1 [.int .i64 g[a].op, .int .i64 g[a].num, .slice adv q capv] rfl rfl (news3c wr _ _ _) (by simp [Value.oneCell']) (by unfold maxLen; omega) (by omega) (by rw [Deep.nblk_alloc]; omega) (by omega) ?_); go_must (intro v' w5 hown hg5 hw5); go_must (have HOWN := mkHid hown); go_must (have HG5 := mkHid hg5); clear hown hg5 hw5)
          have HNEW : Hid (OwnC w5 w2.heap.size (fun b => w2.heap.size ≤ b) ((o.take (k + 1)).map (cpCell g o)) v') := by
            have h := copy_push (G := (o.take k).map (cpCell g o)) (ws := (ks.take q).map (posN o)) (o := g[a].op) (n := g[a].num) HO.out hsz HBO (HCP.out.kids.lower (Nat.le_succ _)) (.cells #[.int .i64 g[a].op, .int .i64 g[a].num, .slice adv q capv] 48) (by rw [HTL.out]; exact HX1.out) (by rw [HTL.out]; exact HOWN.out) (by rw [HTL.out]; exact HG5.out) HIO.out.1 HIO.out.2
            rw [Hid, take_snoc HA.out, List.map_append, List.map_singleton]
            have e : cpCell g o a = ⟨g[a].op, g[a].num, ((ks.take q).map (posN o)).map fun (x : Nat) => (x : Int)⟩ := by
              rw [HWS.out, List.map_map]
              unfold cpCell opAt numAt
              rw [getD_at _ _ _ hal]
              rfl
            rw [e]; exact h
          have HB5 : Hid (Below w2.heap.size w2 w5) := copy_below3 HB.out HBO HX.out HG5.out
          obtain ⟨adn, capn, rfl⟩ := HNEW.out.form
          go_roundw
          case rel => exact ⟨k + 1, by omega, by go_num, HNEW.out, HB5.out⟩
          case measure => simp [intOf]; omega
    · have hke : k = o.length := by omega
      have HF : Hid (OwnC wo w2.heap.size (fun b => w2.heap.size ≤ b) (o.map (cpCell g o)) (.slice ad8 k cap8)) := by
        have h := HO.out
        rw [HTL.out, hke, List.take_length] at h
        rw [Hid, hke]; exact h
      have HS0 : Hid (Stk (wo.alloc (.cells #[] 3)) wo.heap.size ((rs.take 0).map (posN o)) (.slice (some ⟨wo.heap.size, 0, none⟩) 0 0)) := stk_zero (Deep.blk_alloc_new wo _) (Nat.le_refl _)
      clear hown hb hke
      go_wp2_with fail
      go_loopw [12, 13] (fun top i wr => ∃ j : Nat, j ≤ rs.length ∧ i = .int .i64 j ∧ Stk wr wo.heap.size ((rs.take j).map (posN o)) top ∧ Below wo.heap.size wo wr) (fun _ i _ => rs.length - (intOf i).toNat)
      case atStart => exact ⟨0, Nat.zero_le _, rfl, HS0.out, box_below _ _⟩
      case round =>
        obtain ⟨j, hj, rfl, hst, hb⟩ := hrel
        have HB3 : Hid (Below wo.heap.size wo wr) := hb
        have HBW : Hid (Below w2.heap.size w2 wr) := HB.out.trans (hb.mono hsz)
        have hsw := hb.size
        have hjl : ((rs.take j).map (posN o)).length = j := by rw [List.length_map, List.length_take]; omega
        have HJL : Hid (((rs.take j).map (posN o)).length = j) := hjl
        have HS : Hid (Stk wr wo.heap.size ((rs.take j).map (posN o)) u12) := hst
        obtain ⟨adt, capt, rfl⟩ : ∃ ad cap, u12 = .slice ad j cap := by obtain ⟨x, y, e⟩ := hst.len; rw [hjl] at e; exact ⟨x, y, e⟩
        clear hst hb hjl
        by_cases hltj : j < rs.length
        · obtain ⟨bl, off, x, rfl, hbl, hx, hxm, d0w⟩ := pl_at (HR.out.next HB2.out) j hltj
          have hxl := HLT.out x hxm
          have d0 := (HBW.out.cell (p := ⟨bl, off + j, none⟩) hbl).trans d0w
          have dpw := HPL.out.cell (i := x) hxl
          have dp := (HBW.out.cell (p := ⟨bp, x, none⟩) hbpl).trans dpw
          rw [placeV_in (HRT.out x hxm)] at dp
          have HX : Hid (rs[j]? = some x) := hx
          obtain ⟨m, hm2⟩ : ∃ m, m = posN o x := ⟨_, rfl⟩
          have HM : Hid (m = posN o x) := hm2
          rw [← hm2] at dp
          have HS3 : Hid (Stk (wr.alloc (.cells #[.int .i64 (m : Int)] 3)) wo.heap.size ((rs.take j).map (posN o)) (.slice adt j capt)) := HS.out.alloc _
          have HK3 : Hid (IIn (wr.alloc (.cells #[.int .i64 (m : Int)] 3)) [(m : Int)] (.slice (some ⟨wr.heap.size, 0, none⟩) 1 1)) := one_in wr m
          have HLO : Hid (wo.heap.size ≤ (wr.alloc (.cells #[.int .i64 (m : Int)] 3)).heap.size) := by rw [Hid, Deep.nblk_alloc]; omega
          clear hx hxm d0w dpw hm2
          go_wp2_with (at_builtin; go_must (refine wpList_push rfl _ _ rfl _ wo.heap.size ((rs.take j).map (posN o)) [m] (.slice adt j capt) (.slice (some ⟨wr.heap.size, 0, none⟩) 1 1) rfl HS3.out rfl HK3.out rfl HLO.out (by rw [HJL.out]; simp; omega) ?_); go_must (intro v' w5 hst5 hg5); go_must (have HS5 := mkHid hst5); go_must (have HB5 : Hid (Below wo.heap.size wo w5) := push_below HS3.out (HB3.out.alloc hsw _) (Nat.le_refl _) hg5 (Nat.le_refl _)); clear hst5 hg5 d0 dp)
          have HS6 : Hid (Stk w5 wo.heap.size ((rs.take (j + 1)).map (posN o)) v') := by
            rw [Hid, take_snoc HX.out, List.map_append, List.map_singleton, ← HM.out]; exact HS5.out
          go_roundw
          case rel => first | exact ⟨j + 1, by omega, by go_num, HS6.out, HB5.out⟩ | ((repeat apply Exists.intro); exact ⟨⟨j + 1, by omega, by go_num, HS6.out, HB5.out⟩, rfl⟩)
          case measure => simp [intOf]; omega
        · have hje : j = rs.length := by omega
          have HT : Hid (Stk wr wo.heap.size (rs.map (posN o)) (.slice adt j capt)) := by
            have h := HS.out
            rw [hje, List.take_length] at h
            rw [hje]; exact h
          have HG2 : Hid (OwnC wr w2.heap.size (fun b => w2.heap.size ≤ b) (o.map (cpCell g o)) (.slice ad8 k cap8)) := HF.out.next (fun _ h _ => h) (fun b _ hb => HB3.out.block b hb) (fun b _ hb => HB3.out.block b hb)
          clear hje
          go_wp2_with fail
          go_ret2
          rw [HVC.out, HVT.out, ← HOO.out]
          exact ⟨_, _, rfl, HG2.out.lower HB2.out.size fun b hb => Nat.le_trans HB2.out.size hb, HT.out.lower (Nat.le_trans HB2.out.size hsz), HB2.out.trans (HBW.out.mono HB2.out.size)⟩
set_option maxHeartbeats 800000 in
theorem specCopyH_calls (g : List Ce) (rs : List Int) (v rv : Value) (w : World) (hk : CIn w g v) (hr : IIn w rs rv) :
    Calls Try.prog 39 #[v, rv] w (GotGI (copyO g rs) (rootB g rs) w) := by
  have HK : Hid (CIn w g v) := hk
  have HR : Hid (IIn w rs rv) := hr
  clear hk hr
  go_enter Try.func39, Try.ntmps39
  go_wp2_with fail
  refine (l5Right_calls g rs _ _ _ HK.out HR.out).mono ?_
  rintro e w1 ⟨rfl, hb1⟩
  have HB1 : Hid (Below w.heap.size w w1) := hb1
  clear hb1
  cases hg : rootB g rs with
  | false =>
    have HV := mkHid (copyO_no hg)
    have HT := mkHid hg
    clear hg
    go_wp2_with fail
    go_ret3
    rw [HV.out, HT.out]
    exact ⟨_, _, rfl, cin_nil _ _ 0 (by simp [maxLen]), iin_nil _ _ 0 (by simp [maxLen]), (HB1.out.alloc HB1.out.size _).alloc (by rw [Deep.nblk_alloc]; have := HB1.out.size; omega) _⟩
  | true =>
    have HT := mkHid hg
    have HV := mkHid (copyO_yes hg)
    have HR2 : Hid (IIn w1 (plI (natL rs)) rv) := by
      have h := HR.out.next HB1.out
      rw [root_back hg] at h
      exact h
    clear hg
    go_wp2_with fail
    refine (l5CopyH_calls g (natL rs) _ _ _ (HK.out.next HB1.out) HR2.out (rootB_iff.1 HT.out).1 (root_lt HT.out) (by rw [natL_len]; exact (rootB_iff.1 HT.out).2.1)).mono ?_
    rintro e w2 ⟨gv, tv, rfl, ho, hs, hb2⟩
    have HO := mkHid (ho.cin fun k h _ => h)
    have HS := mkHid hs.pin
    have HB2 : Hid (Below w.heap.size w w2) := HB1.out.trans (hb2.mono HB1.out.size)
    clear ho hs hb2
    go_wp2_with fail
    go_ret3
    rw [HV.out, HT.out]
    exact ⟨_, _, rfl, HO.out, HS.out, HB2.out⟩

end Go.Proofs.Ytglpehelmlehiaa
