/-
  THE MODEL's l5Copy: a copy of the cells in their order.
-/
import Derived.Test.YtiipcgnkfhjpeaaGreatDoorMgExactStepRun20
import Derived.Test.YtiipcgnkfhjpeaaGreatDoorMgExactStepRun15
import Derived.Test.YtiipcgnkfhjpeaaGreatDoorMgExactStepRun19
import Derived.Test.YtiipcgnkfhjpeaaGreatDoorMgExactStepRun5
import Derived.Test.YtiipcgnkfhjpeaaGreatDoorMgExactStepRun11
import Derived.Laws.OwnMore
namespace Go.Proofs.YtiipcgnkfhjpeaaGreatDoor
set_option linter.unusedVariables false
set_option linter.unusedSimpArgs false
open Go.RowKit

theorem OwnC.lower {w : World} {lo lo' : Nat} {S S' : Nat → Prop} {g : List Ce} {v : Value} (h : OwnC w lo S g v) (hl : lo' ≤ lo) (hS : ∀ b, S b → S' b) : OwnC w lo' S' g v := by
  obtain ⟨h0, xs, kb, h1, h2, h3⟩ := h
  refine ⟨h0, xs, kb, ⟨h1.1, ?_⟩, fun j hj => ?_, h3⟩
  · rcases h1.2 with h | ⟨b, cap, cur, rfl, hg, r⟩
    · exact Or.inl h
    · exact Or.inr ⟨b, cap, cur, rfl, Nat.le_trans hl hg, r⟩
  · obtain ⟨kv, e0, e1, e2, e3⟩ := h2 j hj
    exact ⟨kv, e0, e1, e2, e3.keep (fun k hk _ => hS k hk) fun _ _ _ _ => rfl⟩
/-- a copied graph and the places of its roots, in new rows -/
def NewGI (g : List Ce) (ts : List Nat) (w : World) (e : Ending) (w' : World) : Prop :=
  ∃ gv tv, e = .returned (.tuple #[gv, tv]) ∧ OwnC w' w.heap.size (fun b => w.heap.size ≤ b) g gv ∧ Stk w' w.heap.size ts tv ∧ Below w.heap.size w w'
/-- the box of a copy while its operands are gathered in kv -/
structure CpRel (wo : World) (o n : Int) (ws : List Nat) (kv : Value) (wr : World) : Prop where
  box : wr.heap[wo.heap.size]? = some (.cells #[.int .i64 o, .int .i64 n, kv] 93)
  kids : Stk wr (wo.heap.size + 1) ws kv
  bel : Below wo.heap.size wo wr

theorem push_keep {w w5 : World} {B : Nat} {ws : List Nat} {v : Value} (hst : Stk w (B + 1) ws v) (hg : w.grownBy w5 v.ownBlock) {b : Nat} (hb : b ≤ B) (hl : b < w.heap.size) : w5.heap[b]? = w.heap[b]? :=
  hg.block b hl fun e => by have := own_lo hst e; omega
theorem cell_push {w w5 : World} {B : Nat} {ws : List Nat} {v : Value} {p : Addr} {u : Value} (h : w.cell? p = some u) (hst : Stk w (B + 1) ws v) (hg : w.grownBy w5 v.ownBlock) (hb : p.block ≤ B) : w5.cell? p = some u :=
  (World.cell?_of_block (push_keep hst hg hb (cell_lt h))).trans h
theorem frz_push {w w5 : World} {B : Nat} {ws : List Nat} {v : Value} {b : Nat} {C : Array Value} {T : TypeId} (h : w.heap[b]? = some (.cells C T)) (hst : Stk w (B + 1) ws v) (hg : w.grownBy w5 v.ownBlock) (hb : b ≤ B) (i : Nat) : w5.frozen? ⟨b, i, none⟩ = false :=
  frz_of_blk ((push_keep hst hg hb (Array.getElem?_eq_some_iff.1 h).1).trans h) i

theorem cp_step {wo wr w5 : World} {o n : Int} {ws : List Nat} {kv kv' : Value} {m : Nat} {obj : Obj} (h : CpRel wo o n ws kv wr) (hst : Stk w5 (wo.heap.size + 1) (ws ++ [m]) kv') (hg : (wr.alloc obj).drew.grownBy w5 kv.ownBlock) :
    CpRel wo o n (ws ++ [m]) kv' (w5.setCell ⟨wo.heap.size, 2, none⟩ kv') := by
  have hl := (Array.getElem?_eq_some_iff.1 h.box).1
  have hk : Stk (wr.alloc obj).drew (wo.heap.size + 1) ws kv := h.kids.alloc obj
  have hb : Below wo.heap.size wo (wr.alloc obj).drew := (h.bel.alloc h.bel.size obj).drew
  refine ⟨box_set (c := kv) ?_ _, hst.keep fun b h1 h2 => Below.heap_setCell _ _ _ _ (by show b ≠ wo.heap.size; omega), (push_below hk hb (Nat.le_succ _) hg (Nat.le_refl _)).setCell (Nat.le_refl _) _⟩
  refine (push_keep hk hg (Nat.le_refl _) (by show wo.heap.size < (wr.alloc obj).heap.size; rw [Deep.nblk_alloc]; omega)).trans ((Deep.blk_alloc_lt _ _ _ hl).trans h.box)

set_option maxRecDepth 100000 in
set_option maxHeartbeats 3200000 in
theorem l5Copy_calls (g : List Ce) (rs : List Nat) (v rv : Value) (w : World) (hk : CIn w g v) (hr : IIn w (plI rs) rv) (hg : graphB g 6 = true) (hlt : ∀ x ∈ rs, x < g.length) (h20 : rs.length ≤ 20) :
    Calls Tryz.prog 92 #[v, rv] w (NewGI (copyG g rs) (topsG g rs) w) := by
  have HK : Hid (CIn w g v) := hk
  have HR : Hid (IIn w (plI rs) rv) := hr
  have HG : Hid (graphB g 6 = true) := hg
  have HLT : Hid (∀ x ∈ rs, x < g.length) := hlt
  have h400 : g.length ≤ 400 := graphB_len hg
  have HVC : Hid (copyG g rs = (orderG g rs).map (cpCell g (orderG g rs))) := rfl
  have HVT : Hid (topsG g rs = rs.map (posN (orderG g rs))) := rfl
  obtain ⟨o, hoo⟩ : ∃ o, o = orderG g rs := ⟨_, rfl⟩
  have HOO : Hid (o = orderG g rs) := hoo
  have HCS : Hid (Cs g.length o) := by rw [hoo]; exact order_cs hg hlt
  have HCL : Hid (∀ a ∈ o, ∀ k ∈ kidsN g a, k ∈ o) := by rw [hoo]; exact order_closed hg hlt
  have HRT : Hid (∀ x ∈ rs, x ∈ o) := by rw [hoo]; exact order_root hg hlt
  have hol : o.length ≤ g.length := HCS.out.len
  obtain ⟨ad, cap, rfl, hl, hm, -⟩ := hk
  obtain ⟨adr, capr, rfl, hlr, hmr⟩ := pl_form hr
  unfold maxLen at hm hmr
  clear hg hlt hr hoo
  go_enter Tryz.func92, Tryz.ntmps92
  go_wp2_with fail
  refine (l5Order_calls g rs _ _ _ HK.out HR.out HG.out HLT.out h20).mono ?_
  rintro e w1 ⟨ov, rfl, hst, hb1⟩
  rw [← HOO.out] at hst
  have HS1 : Hid (IIn w1 (plI o) ov) := hst.pin
  have HB1 : Hid (Below w.heap.size w w1) := hb1
  obtain ⟨ado, capo, rfl, hlo, hmo⟩ := pl_form hst.pin
  unfold maxLen at hmo
  clear hst hb1
  go_wp2_with fail
  refine (l5Places_calls g.length o _ _ HS1.out HCS.out h400).mono ?_
  rintro e w2 ⟨bp, rfl, hbp, hpl, hb2⟩
  have HPL : Hid (PlW w2 bp g.length o) := hpl
  have hbpl : bp < w2.heap.size := hpl.lt
  have HS2 : Hid (IIn w2 (plI o) (.slice ado o.length capo)) := HS1.out.next hb2
  have HB2 : Hid (Below w.heap.size w w2) := HB1.out.trans (hb2.mono HB1.out.size)
  have HSTA : Hid (OwnC (w2.alloc (.cells #[] 93)) w2.heap.size (fun b => w2.heap.size ≤ b) ((o.take 0).map (cpCell g o)) (.slice (some ⟨w2.heap.size, 0, none⟩) 0 0)) :=
    ⟨fun i h => absurd h (by simp), [], fun _ => 0, ⟨rfl, Or.inr ⟨w2.heap.size, 0, #[], rfl, Nat.le_refl _, Deep.blk_alloc_new _ _, Nat.le_refl _, by simp [maxLen], rfl, rfl⟩⟩, fun j hj => absurd hj (by simp), fun i j hi _ => absurd hi (by simp)⟩
  clear hpl hb2
  go_wp2_with fail
  go_loopw [8, 9] (fun out i wr => ∃ k : Nat, k ≤ o.length ∧ i = .int .i64 k ∧ OwnC wr w2.heap.size (fun b => w2.heap.size ≤ b) ((o.take k).map (cpCell g o)) out ∧ Below w2.heap.size w2 wr) (fun _ i _ => o.length - (intOf i).toNat)
  case atStart => exact ⟨0, Nat.zero_le _, rfl, HSTA.out, box_below _ _⟩
  case round =>
    obtain ⟨k, hk, rfl, hown, hb⟩ := hrel
    obtain ⟨wo, rfl⟩ : ∃ wo : World, wo = wr := ⟨_, rfl⟩
    have HO : Hid (OwnC wo w2.heap.size (fun b => w2.heap.size ≤ b) ((o.take k).map (cpCell g o)) u8) := hown
    have HB : Hid (Below w2.heap.size w2 wo) := hb
    have hsz := hb.size
    have HTL : Hid (((o.take k).map (cpCell g o)).length = k) := by rw [Hid, List.length_map, List.length_take]; omega
    obtain ⟨ad8, cap8, rfl⟩ := hown.form
    rw [HTL.out]
    by_cases hlt : k < o.length
    · obtain ⟨blo, offo, a, rfl, hblo, ha, ham, dow⟩ := pl_at HS2.out k hlt
      have hal := HCS.out.2 a ham
      obtain ⟨bl, off, r2, rfl, c0w, c1w, c2w, io, iN, hkk⟩ := (HK.out.next HB2.out).at a hal
      have HLW : Hid (bl < w2.heap.size) := cell_lt c0w
      have c0 := (hb.cell (p := ⟨bl, off + a * 3, none⟩) HLW.out).trans c0w
      have c1 := (hb.cell (p := ⟨bl, off + a * 3 + 1, none⟩) HLW.out).trans c1w
      have co := (hb.cell (p := ⟨blo, offo + k, none⟩) hblo).trans dow
      have HC2 : Hid (w2.cell? ⟨bl, off + a * 3 + 2, none⟩ = some r2) := c2w
      have HD : Hid (w2.cell? ⟨blo, offo + k, none⟩ = some (.int .i64 (a : Int))) := dow
      have HKK : Hid (IIn w2 (plI (kidsN g a)) r2) := kids_pl HG.out hal hkk
      have HIO : Hid (I64 g[a].op ∧ I64 g[a].num) := ⟨io, iN⟩
      clear c0w c1w c2w dow hkk hown hb io iN
      have lo1 := cell_lt co
      have lg1 := cell_lt c0
      go_wp2_with fail
      go_region_held3 (fun w' => w'.cell? ⟨blo, offo + k, none⟩ = some (.int .i64 (a : Int)) ∧ w'.cell? ⟨bl, off + a * 3, none⟩ = some (.int .i64 g[a].op) ∧ w'.cell? ⟨bl, off + a * 3 + 1, none⟩ = some (.int .i64 g[a].num))
        (first
          | go_keep
          | exact ⟨co, c0, c1⟩
          | exact ⟨old_cell co _, old_cell c0 _, old_cell c1 _⟩)
        (first
          | fail)
      obtain ⟨ks, hks⟩ : ∃ ks, ks = kidsN g a := ⟨_, rfl⟩
      rw [← hks] at HKK
      have HKS : Hid (ks = kidsN g a) := hks
      obtain ⟨adk, capk, rfl, hlk, hmk⟩ := pl_form HKK.out
      unfold maxLen at hmk
      have hk3 : ks.length ≤ 3 := by rw [hks]; exact kidsN_len HG.out a hal
      have HKL : Hid (∀ x ∈ ks, x < g.length ∧ x ∈ o) := by rw [hks]; exact fun x hx => ⟨kidsN_lt HG.out a hal x hx, HCL.out a ham x hx⟩
      have HCP0 : Hid (CpRel wo g[a].op g[a].num ((ks.take 0).map (posN o)) (.slice none 0 0) ((wo.alloc (.cells #[.int .i64 g[a].op, .int .i64 g[a].num, .slice none 0 0] 93)).drew)) :=
        ⟨Deep.blk_alloc_new wo _, World.ownsRow_nil _ _ _ _, (box_below wo _).drew⟩
      have HA : Hid (o[k]? = some a) := ha
      clear co c0 c1 hks ha
      go_wp2_with fail
      go_loopw [11] (fun z wr => ∃ (q : Nat) (kv : Value), q ≤ ks.length ∧ z = .int .i64 q ∧ CpRel wo g[a].op g[a].num ((ks.take q).map (posN o)) kv wr) (fun z _ => ks.length - (intOf z).toNat)
      case atStart => exact ⟨0, _, Nat.zero_le _, rfl, HCP0.out⟩
      case round =>
        obtain ⟨q, kv, hq, rfl, hcp⟩ := hrel
        have HCP : Hid (CpRel wo g[a].op g[a].num ((ks.take q).map (posN o)) kv wr) := hcp
        have HBW : Hid (Below w2.heap.size w2 wr) := HB.out.trans (hcp.bel.mono hsz)
        have hsw := hcp.bel.size
        have hbl := hcp.box
        have hblt : wo.heap.size < wr.heap.size := (Array.getElem?_eq_some_iff.1 hbl).1
        have b2 := cell_of_blk hbl 2 _ rfl
        have co := (HBW.out.cell (p := ⟨blo, offo + k, none⟩) hblo).trans HD.out
        have c2 := (HBW.out.cell (p := ⟨bl, off + a * 3 + 2, none⟩) HLW.out).trans HC2.out
        have hkl : ((ks.take q).map (posN o)).length = q := by rw [List.length_map, List.length_take]; omega
        have HLQ : Hid (((ks.take q).map (posN o)).length = q) := hkl
        have HKV : Hid (Stk wr (wo.heap.size + 1) ((ks.take q).map (posN o)) kv) := hcp.kids
        obtain ⟨adv, capv, rfl⟩ : ∃ adv capv, kv = .slice adv q capv := by obtain ⟨x, y, e⟩ := hcp.kids.len; rw [hkl] at e; exact ⟨x, y, e⟩
        have HBX : Hid (wr.heap[wo.heap.size]? = some (.cells #[.int .i64 g[a].op, .int .i64 g[a].num, .slice adv q capv] 93)) := hbl
        clear hcp hbl hkl
        by_cases hltq : q < ks.length
        · obtain ⟨blk, offk, x, rfl, hblk, hx, hxm, dkw⟩ := pl_at HKK.out q hltq
          obtain ⟨hxl, hxo⟩ := HKL.out x hxm
          have dk := (HBW.out.cell (p := ⟨blk, offk + q, none⟩) hblk).trans dkw
          have dpw := HPL.out.cell (i := x) hxl
          have dp := (HBW.out.cell (p := ⟨bp, x, none⟩) hbpl).trans dpw
          rw [placeV_in hxo] at dp
          have HX : Hid (ks[q]? = some x) := hx
          obtain ⟨m, hm2⟩ : ∃ m, m = posN o x := ⟨_, rfl⟩
          have HM : Hid (m = posN o x) := hm2
          rw [← hm2] at dp
          have l1 := cell_lt co
          have l2 := cell_lt c2
          have l3 := cell_lt dk
          have l4 := cell_lt dp
          have b2a := old_cell b2 (.cells #[.int .i64 (m : Int)] 3)
          have HBX1 : Hid ((wr.alloc (.cells #[.int .i64 (m : Int)] 3)).drew.heap[wo.heap.size]? = some (.cells #[.int .i64 g[a].op, .int .i64 g[a].num, .slice adv q capv] 93)) := (Deep.blk_alloc_lt _ _ _ hblt).trans HBX.out
          have HKV1 : Hid (Stk (wr.alloc (.cells #[.int .i64 (m : Int)] 3)).drew (wo.heap.size + 1) ((ks.take q).map (posN o)) (.slice adv q capv)) := HKV.out.alloc _
          have HK1 : Hid (IIn (wr.alloc (.cells #[.int .i64 (m : Int)] 3)).drew [(m : Int)] (.slice (some ⟨wr.heap.size, 0, none⟩) 1 1)) := one_in wr m
          have HLO1 : Hid (wo.heap.size + 1 ≤ (wr.alloc (.cells #[.int .i64 (m : Int)] 3)).drew.heap.size) := by show _ ≤ (wr.alloc _).heap.size; rw [Deep.nblk_alloc]; omega
          have b2b : (wr.alloc (.cells #[.int .i64 (m : Int)] 3)).drew.cell? ⟨wo.heap.size, 2, none⟩ = _ := b2a
          have co1 : (wr.alloc (.cells #[.int .i64 (m : Int)] 3)).drew.cell? ⟨blo, offo + k, none⟩ = _ := old_cell co (.cells #[.int .i64 (m : Int)] 3)
          have c21 : (wr.alloc (.cells #[.int .i64 (m : Int)] 3)).drew.cell? ⟨bl, off + a * 3 + 2, none⟩ = _ := old_cell c2 (.cells #[.int .i64 (m : Int)] 3)
          have dk1 : (wr.alloc (.cells #[.int .i64 (m : Int)] 3)).drew.cell? ⟨blk, offk + q, none⟩ = _ := old_cell dk (.cells #[.int .i64 (m : Int)] 3)
          have dp1 : (wr.alloc (.cells #[.int .i64 (m : Int)] 3)).drew.cell? ⟨bp, x, none⟩ = _ := old_cell dp (.cells #[.int .i64 (m : Int)] 3)
          have HSS := mkHid (And.intro b2b (And.intro co1 (And.intro c21 (And.intro dk1 dp1))))
          have b2c : wr.drew.cell? ⟨wo.heap.size, 2, none⟩ = _ := b2
          clear hx hxm dkw dpw hm2
          go_wp2_with fail
          go_region_law (first
              | (refine step_push (by rfl) (.tmp 59) (.tmp 74) (by rfl) (wo.heap.size + 1) ((ks.take q).map (posN o)) [m] (.slice adv q capv) (.slice (some ⟨wr.heap.size, 0, none⟩) 1 1) (by rfl) HKV1.out (by rfl) HK1.out rfl HLO1.out (by rw [HLQ.out]; simp; omega) ?_; intro v5 w5 hst5 hg5; go_must (obtain ⟨ad6, cap6, rfl⟩ := stk_form hst5 HLQ.out); have HST5 := mkHid hst5; have HG5 := mkHid hg5; go_must (have s5 := cell_push HSS.out.1 HKV1.out hg5 (Nat.le_refl _); have s1 := cell_push HSS.out.2.1 HKV1.out hg5 (by show blo ≤ _; omega); have s2 := cell_push HSS.out.2.2.1 HKV1.out hg5 (by show bl ≤ _; omega); have s3 := cell_push HSS.out.2.2.2.1 HKV1.out hg5 (by show blk ≤ _; omega); have s4 := cell_push HSS.out.2.2.2.2 HKV1.out hg5 (by show bp ≤ _; omega); have sf := frz_push HBX1.out HKV1.out hg5 (Nat.le_refl _) 2); clear hst5 hg5))
          all_goals
            have HCP2 : Hid (CpRel wo g[a].op g[a].num ((ks.take (q + 1)).map (posN o)) (.slice ad6 (q + 1) cap6) (w5.setCell ⟨wo.heap.size, 2, none⟩ (.slice ad6 (q + 1) cap6))) := by
              rw [Hid, take_snoc HX.out, List.map_append, List.map_singleton, ← HM.out]
              exact cp_step HCP.out HST5.out HG5.out
            clear s1 s2 s3 s4 s5 sf
            go_wp2_with fail
            go_roundw
            case rel => exact ⟨q + 1, _, by omega, by go_num, HCP2.out⟩
            case measure => simp [intOf]; omega
        · have hqe : q = ks.length := by omega
          have HWS : Hid ((ks.take q).map (posN o) = (kidsN g a).map (posN o)) := by rw [Hid, hqe, List.take_length, HKS.out]
          have r0 := cell_of_blk HBX.out 0 _ rfl
          have r1 := cell_of_blk HBX.out 1 _ rfl
          obtain ⟨xs, hx⟩ := HO.out.row
          rw [HTL.out] at hx
          have HX : Hid (wo.ownsRow w2.heap.size 93 3 (.slice ad8 k cap8) k xs) := hx
          have HX1 : Hid ((wr.alloc (.cells #[.int .i64 g[a].op, .int .i64 g[a].num, .slice adv q capv] 93)).ownsRow w2.heap.size 93 3 (.slice ad8 k cap8) k xs) := copy_own hx HCP.out.bel _
          obtain ⟨iC, zC, hII⟩ := infoC1
          have HII : Hid (Tryz.prog.info? 93 = some iC ∧ iC.zero = some zC ∧ iC.size = 3 ∧ iC.bytes = 40 ∧ zC.cells.size = 3) := hII
          have HBO := HCP.out.bel
          clear hx hII hqe
          go_wp2_with (at_builtin; go_must (refine wpList_append_where _ rfl _ _ 28 rfl w2.heap.size 93 iC zC 3 40 Tryz.underlying28 HII.out.1 HII.out.2.1 HII.out.2.2.1 HII.out.2.2.2.1 HII.out.2.2.2.2 (by decide) (.slice ad8 k cap8) k xs rfl HX1.out ⟨wr.heap.size, 0, none⟩ 1 1 [.int .i64 g[a].op, .int .i64 g[a].num, .slice adv q capv] rfl rfl (news3c wr _ _ _) (by simp [Value.oneCell']) (by unfold maxLen; omega) (by omega) (by rw [Deep.nblk_alloc]; omega) (by omega) ?_); go_must (intro v' w5 hown hg5 hw5); go_must (have HOWN := mkHid hown); go_must (have HG5 := mkHid hg5); clear hown hg5 hw5)
          have HNEW : Hid (OwnC w5 w2.heap.size (fun b => w2.heap.size ≤ b) ((o.take (k + 1)).map (cpCell g o)) v') := by
            have h := copy_push (G := (o.take k).map (cpCell g o)) (ws := (ks.take q).map (posN o)) (o := g[a].op) (n := g[a].num) HO.out hsz HBO (HCP.out.kids.lower (Nat.le_succ _)) (.cells #[.int .i64 g[a].op, .int .i64 g[a].num, .slice adv q capv] 93) (by rw [HTL.out]; exact HX1.out) (by rw [HTL.out]; exact HOWN.out) (by rw [HTL.out]; exact HG5.out) HIO.out.1 HIO.out.2
            rw [Hid, take_snoc HA.out, List.map_append, List.map_singleton]
            have e : cpCell g o a = ⟨g[a].op, g[a].num, ((ks.take q).map (posN o)).map fun (x : Nat) => (x : Int)⟩ := by
              rw [HWS.out, List.map_map]
              unfold cpCell opAt numAt
              rw [getD_at _ _ _ hal]
              rfl
            rw [e]; exact h
          have HB5 : Hid (Below w2.heap.size w2 w5) := copy_below3 HB.out HBO HX.out HG5.out
          obtain ⟨adn, capn, rfl⟩ := HNEW.out.form
          go_roundw
          case rel => exact ⟨k + 1, by omega, by go_num, HNEW.out, HB5.out⟩
          case measure => simp [intOf]; omega
    · have hke : k = o.length := by omega
      have HF : Hid (OwnC wo w2.heap.size (fun b => w2.heap.size ≤ b) (o.map (cpCell g o)) (.slice ad8 k cap8)) := by
        have h := HO.out
        rw [HTL.out, hke, List.take_length] at h
        rw [Hid, hke]; exact h
      have HS0 : Hid (Stk (wo.alloc (.cells #[] 3)) wo.heap.size ((rs.take 0).map (posN o)) (.slice (some ⟨wo.heap.size, 0, none⟩) 0 0)) := stk_zero (Deep.blk_alloc_new wo _) (Nat.le_refl _)
      clear hown hb hke
      go_wp2_with fail
      go_loopw [12, 13] (fun top i wr => ∃ j : Nat, j ≤ rs.length ∧ i = .int .i64 j ∧ Stk wr wo.heap.size ((rs.take j).map (posN o)) top ∧ Below wo.heap.size wo wr) (fun _ i _ => rs.length - (intOf i).toNat)
      case atStart => exact ⟨0, Nat.zero_le _, rfl, HS0.out, box_below _ _⟩
      case round =>
        obtain ⟨j, hj, rfl, hst, hb⟩ := hrel
        have HB3 : Hid (Below wo.heap.size wo wr) := hb
        have HBW : Hid (Below w2.heap.size w2 wr) := HB.out.trans (hb.mono hsz)
        have hsw := hb.size
        have hjl : ((rs.take j).map (posN o)).length = j := by rw [List.length_map, List.length_take]; omega
        have HJL : Hid (((rs.take j).map (posN o)).length = j) := hjl
        have HS : Hid (Stk wr wo.heap.size ((rs.take j).map (posN o)) u12) := hst
        obtain ⟨adt, capt, rfl⟩ : ∃ ad cap, u12 = .slice ad j cap := by obtain ⟨x, y, e⟩ := hst.len; rw [hjl] at e; exact ⟨x, y, e⟩
        clear hst hb hjl
        by_cases hltj : j < rs.length
        · obtain ⟨bl, off, x, rfl, hbl, hx, hxm, d0w⟩ := pl_at (HR.out.next HB2.out) j hltj
          have hxl := HLT.out x hxm
          have d0 := (HBW.out.cell (p := ⟨bl, off + j, none⟩) hbl).trans d0w
          have dpw := HPL.out.cell (i := x) hxl
          have dp := (HBW.out.cell (p := ⟨bp, x, none⟩) hbpl).trans dpw
          rw [placeV_in (HRT.out x hxm)] at dp
          have HX : Hid (rs[j]? = some x) := hx
          obtain ⟨m, hm2⟩ : ∃ m, m = posN o x := ⟨_, rfl⟩
          have HM : Hid (m = posN o x) := hm2
          rw [← hm2] at dp
          have HS3 : Hid (Stk (wr.alloc (.cells #[.int .i64 (m : Int)] 3)) wo.heap.size ((rs.take j).map (posN o)) (.slice adt j capt)) := HS.out.alloc _
          have HK3 : Hid (IIn (wr.alloc (.cells #[.int .i64 (m : Int)] 3)) [(m : Int)] (.slice (some ⟨wr.heap.size, 0, none⟩) 1 1)) := one_in wr m
          have HLO : Hid (wo.heap.size ≤ (wr.alloc (.cells #[.int .i64 (m : Int)] 3)).heap.size) := by rw [Hid, Deep.nblk_alloc]; omega
          clear hx hxm d0w dpw hm2
          go_wp2_with (at_builtin; go_must (refine wpList_push rfl _ _ rfl _ wo.heap.size ((rs.take j).map (posN o)) [m] (.slice adt j capt) (.slice (some ⟨wr.heap.size, 0, none⟩) 1 1) rfl HS3.out rfl HK3.out rfl HLO.out (by rw [HJL.out]; simp; omega) ?_); go_must (intro v' w5 hst5 hg5); go_must (have HS5 := mkHid hst5); go_must (have HB5 : Hid (Below wo.heap.size wo w5) := push_below HS3.out (HB3.out.alloc hsw _) (Nat.le_refl _) hg5 (Nat.le_refl _)); clear hst5 hg5 d0 dp)
          have HS6 : Hid (Stk w5 wo.heap.size ((rs.take (j + 1)).map (posN o)) v') := by
            rw [Hid, take_snoc HX.out, List.map_append, List.map_singleton, ← HM.out]; exact HS5.out
          go_roundw
          case rel => first | exact ⟨j + 1, by omega, by go_num, HS6.out, HB5.out⟩ | ((repeat apply Exists.intro); exact ⟨⟨j + 1, by omega, by go_num, HS6.out, HB5.out⟩, rfl⟩)
          case measure => simp [intOf]; omega
        · have hje : j = rs.length := by omega
          have HT : Hid (Stk wr wo.heap.size (rs.map (posN o)) (.slice adt j capt)) := by
            have h := HS.out
            rw [hje, List.take_length] at h
            rw [hje]; exact h
          have HG2 : Hid (OwnC wr w2.heap.size (fun b => w2.heap.size ≤ b) (o.map (cpCell g o)) (.slice ad8 k cap8)) := HF.out.next (fun _ h _ => h) (fun b _ hb => HB3.out.block b hb) (fun b _ hb => HB3.out.block b hb)
          clear hje
          go_wp2_with fail
          go_ret2
          rw [HVC.out, HVT.out, ← HOO.out]
          exact ⟨_, _, rfl, HG2.out.lower HB2.out.size fun b hb => Nat.le_trans HB2.out.size hb, HT.out.lower (Nat.le_trans HB2.out.size hsz), HB2.out.trans (HBW.out.mono HB2.out.size)⟩
end Go.Proofs.YtiipcgnkfhjpeaaGreatDoor
/-
  THE MODEL's l5Right: a graph and some of its cells.
-/
namespace Go.Proofs.YtiipcgnkfhjpeaaGreatDoor
set_option linter.unusedVariables false
set_option linter.unusedSimpArgs false
open Go.RowKit

end Go.Proofs.YtiipcgnkfhjpeaaGreatDoor
/-
  THE MODEL's CopyOrder AND CopyGraph.
-/
namespace Go.Proofs.YtiipcgnkfhjpeaaGreatDoor
set_option linter.unusedVariables false
set_option linter.unusedSimpArgs false
open Go.RowKit

theorem OwnC.cin {w : World} {lo : Nat} {S : Nat → Prop} {g : List Ce} {v : Value} (h : OwnC w lo S g v) (hS : ∀ k, S k → k < w.heap.size → lo ≤ k) : CIn w g v := (h.own hS).inn

end Go.Proofs.YtiipcgnkfhjpeaaGreatDoor
/-
  THE MODEL's l5Skip: past indirections.
-/
namespace Go.Proofs.YtiipcgnkfhjpeaaGreatDoor
set_option linter.unusedVariables false
set_option linter.unusedSimpArgs false
open Go.RowKit

set_option maxHeartbeats 800000 in
theorem l5Skip_calls (g : List Ce) (a : Nat) (v : Value) (w : World) (hk : CIn w g v) (hg : graphB g 6 = true) (ha : a < g.length) :
    Calls Tryz.prog 91 #[v, .int .i64 (a : Int)] w fun e w' => e = .returned (.int .i64 (skipN g a : Int)) ∧ Below w.heap.size w w' := by
  have HK : Hid (CIn w g v) := hk
  have HG := mkHid hg
  have HSK : Hid (skipN g a = (followN g g.length a).getD a) := rfl
  clear hk hg
  go_enter Tryz.func91, Tryz.ntmps91
  go_wp2_with fail
  refine (l3Follow_calls g a _ _ HK.out ⟨6, HG.out⟩ ha).mono ?_
  rintro e w1 ⟨rfl, hb1⟩
  have HB1 : Hid (Below w.heap.size w w1) := hb1
  clear hb1
  rw [follow_enough HG.out a ha]
  cases hf : followN g g.length a with
  | none =>
    have HV : Hid (skipN g a = a) := by rw [Hid, HSK.out, hf]; rfl
    clear hf
    have e1 : folI none = -1 := rfl
    rw [e1]
    go_wp2_with fail
    go_ret
    exact ⟨ret_int (by rw [HV.out]), HB1.out⟩
  | some b =>
    have HV : Hid (skipN g a = b) := by rw [Hid, HSK.out, hf]; rfl
    clear hf
    have e1 : folI (some b) = (b : Int) := rfl
    rw [e1]
    have hbn : ¬ ((b : Int) < 0) := by omega
    go_wp2_with fail
    go_ret
    exact ⟨ret_int (by rw [HV.out]), HB1.out⟩
end Go.Proofs.YtiipcgnkfhjpeaaGreatDoor
/-
  AN OPERAND OF A CELL OF A GRAPH THAT IS BEING BUILT, OVERWRITTEN.
-/
namespace Go.Proofs.YtiipcgnkfhjpeaaGreatDoor
set_option linter.unusedVariables false
set_option linter.unusedSimpArgs false
open Go.RowKit

/-- a cell with one operand overwritten -/
def setKid (g : List Ce) (i q : Nat) (y : Int) : List Ce := g.modify i fun c => ⟨c.op, c.num, c.kids.set q y⟩
theorem setKid_len (g : List Ce) (i q : Nat) (y : Int) : (setKid g i q y).length = g.length := by simp [setKid]
theorem setKid_at (g : List Ce) (i q : Nat) (y : Int) (j : Nat) (hj : j < g.length) : (setKid g i q y)[j]'(by rw [setKid_len]; exact hj) = if i = j then ⟨g[j].op, g[j].num, g[j].kids.set q y⟩ else g[j] := by
  unfold setKid; rw [List.getElem_modify]
theorem setKid_op (g : List Ce) (i q : Nat) (y : Int) (j : Nat) (hj : j < g.length) : ((setKid g i q y)[j]'(by rw [setKid_len]; exact hj)).op = g[j].op ∧ ((setKid g i q y)[j]'(by rw [setKid_len]; exact hj)).num = g[j].num ∧ ((setKid g i q y)[j]'(by rw [setKid_len]; exact hj)).kids.length = g[j].kids.length := by
  rw [setKid_at g i q y j hj]; split <;> simp
theorem nil_len {α : Type} {l : List α} : l = [] ↔ l.length = 0 := List.length_eq_zero_iff.symm
/-- where an operand lies -/
theorem OwnC.kidAt {w : World} {lo : Nat} {S : Nat → Prop} {g : List Ce} {v : Value} (h : OwnC w lo S g v) (i : Nat) (hi : i < g.length) (q : Nat) (hq : q < g[i].kids.length) :
    ∃ b cap blk capk, v = .slice (some ⟨b, 0, none⟩) g.length cap ∧ lo ≤ b ∧ b < w.heap.size ∧ S blk ∧ blk < w.heap.size ∧ b ≠ blk ∧ g[i].kids.length ≤ capk ∧ capk ≤ maxLen ∧ w.cell? ⟨b, i * 3 + 2, none⟩ = some (.slice (some ⟨blk, 0, none⟩) g[i].kids.length capk) ∧
      w.cell? ⟨blk, q, none⟩ = some (.int .i64 g[i].kids[q]) ∧ w.frozen? ⟨blk, q, none⟩ = false ∧ ∀ y, OwnC (w.setCell ⟨blk, q, none⟩ (.int .i64 y)) lo S (setKid g i q y) v := by
  obtain ⟨hi0, xs, kb, h1, h2, h3⟩ := h
  obtain ⟨kv, e0, e1, e2, adk, capk, rfl, l1, l2, h5⟩ := h2 i hi
  rcases h5 with h5 | ⟨f, rfl, hS, hr, hf⟩
  · rw [h5] at hq; simp at hq
  obtain ⟨C, hC, -, -⟩ := id hr
  have hne : ∀ k, some k = v.ownBlock → k ≠ kb i := by
    rintro k e rfl
    rcases h1.2 with ⟨rfl, -⟩ | ⟨b, cap, cur, rfl, -, hh, -⟩
    · simp [Value.ownBlock] at e
    · simp only [Value.ownBlock, Option.some.injEq] at e
      rw [e, hh] at hC
      simp at hC
  obtain ⟨b, cap, rfl, hlo, hbl⟩ : ∃ b cap, v = .slice (some ⟨b, 0, none⟩) g.length cap ∧ lo ≤ b ∧ b < w.heap.size := by
    rcases h1.2 with ⟨rfl, h0⟩ | ⟨b, cap, cur, rfl, hg, hh, -⟩
    · omega
    · exact ⟨b, cap, rfl, hg, (Array.getElem?_eq_some_iff.1 hh).1⟩
  have hcell := h1.cellAt (i * 3 + 2) (by omega)
  have hfq := hr.cell (i := q) (by omega)
  rw [hf q hq] at hfq
  refine ⟨b, cap, kb i, capk, rfl, hlo, hbl, hS, hr.lt, hne b rfl, l1, l2, ?_, hfq, hr.frozen q, fun y => ?_⟩
  · rw [hcell]; exact e2
  have keepb : ∀ k, k ≠ kb i → (w.setCell ⟨kb i, q, none⟩ (.int .i64 y)).heap[k]? = w.heap[k]? := fun k hk => Below.heap_setCell _ _ _ _ hk
  refine ⟨fun j hj => ?_, xs, kb, ?_, fun j hj => ?_, ?_⟩
  · have hj2 : j < g.length := by rw [setKid_len] at hj; exact hj
    obtain ⟨a1, a2, -⟩ := setKid_op g i q y j hj2
    rw [a1, a2]; exact hi0 j hj2
  · rw [setKid_len]
    refine ⟨h1.1, ?_⟩
    rcases h1.2 with h | ⟨b2, cap2, cur, e, hg, hh, r⟩
    · exact Or.inl h
    · exact Or.inr ⟨b2, cap2, cur, e, hg, (keepb b2 (hne b2 (by rw [e]; rfl))).trans hh, r⟩
  · have hj2 : j < g.length := by rw [setKid_len] at hj; exact hj
    obtain ⟨a1, a2, a3⟩ := setKid_op g i q y j hj2
    obtain ⟨kv2, f0, f1, f2, f3⟩ := h2 j hj2
    refine ⟨kv2, by rw [a1]; exact f0, by rw [a2]; exact f1, f2, ?_⟩
    obtain ⟨ad2, cap2, rfl, m1, m2, f5⟩ := f3
    refine ⟨ad2, cap2, by rw [a3], by rw [a3]; exact m1, m2, ?_⟩
    rcases f5 with f5 | ⟨f', rfl, hS', hr', hf'⟩
    · exact Or.inl (nil_len.2 (by rw [a3, f5]; rfl))
    · by_cases hji : j = i
      · subst hji
        have hc2 : cap2 = capk := by
          rw [e2] at f2
          simp only [Option.some.injEq, Value.slice.injEq] at f2
          exact f2.2.2.symm
        subst hc2
        refine Or.inr ⟨fun x => if x = q then .int .i64 y else f x, rfl, hS, hr.set q _, fun x hx => ?_⟩
        rw [a3] at hx
        simp only [setKid_at g j q y j hj2, if_pos, List.getElem_set]
        by_cases e : x = q
        · rw [if_pos e, if_pos e.symm]
        · rw [if_neg e, if_neg (fun h => e h.symm)]; exact hf x hx
      · have hkk : g[j].kids = [] ∨ kb j ≠ kb i := by
          by_cases hn : g[j].kids = []
          · exact Or.inl hn
          · exact Or.inr (h3 j i hj2 hi hji hn (fun e => by rw [e] at hq; simp at hq))
        rcases hkk with hkk | hkk
        · exact Or.inl (nil_len.2 (by rw [a3, hkk]; rfl))
        · refine Or.inr ⟨f', rfl, hS', hr'.of_block (keepb _ hkk), fun x hx => ?_⟩
          simp only [setKid_at g i q y j hj2, if_neg (fun e : i = j => hji e.symm)] at hx ⊢
          exact hf' x hx
  · intro a b ha hb hab ea eb
    rw [setKid_len] at ha hb
    refine h3 a b ha hb hab (fun e => ea (nil_len.2 ?_)) (fun e => eb (nil_len.2 ?_))
    · rw [(setKid_op g i q y a ha).2.2, e]; rfl
    · rw [(setKid_op g i q y b hb).2.2, e]; rfl
end Go.Proofs.YtiipcgnkfhjpeaaGreatDoor
/-
  PLAIN: operands replaced one by one by the cells for which they stand. No program is named here.
-/
namespace Go.Proofs.YtiipcgnkfhjpeaaGreatDoor
set_option linter.unusedVariables false
set_option linter.unusedSimpArgs false

/-- the operands of the cells before i, and the first k of cell i, are replaced -/
def shortP (g : List Ce) (i k : Nat) : List Ce := g.mapIdx fun j c => ⟨c.op, c.num, c.kids.mapIdx fun q x => if j < i ∨ (j = i ∧ q < k) then (skipN g x.toNat : Int) else x⟩
theorem shortP_len (g : List Ce) (i k : Nat) : (shortP g i k).length = g.length := by simp [shortP]
theorem shortP_at (g : List Ce) (i k j : Nat) (hj : j < g.length) : (shortP g i k)[j]'(by rw [shortP_len]; exact hj) = ⟨g[j].op, g[j].num, g[j].kids.mapIdx fun q x => if j < i ∨ (j = i ∧ q < k) then (skipN g x.toNat : Int) else x⟩ := by simp [shortP]
theorem ce_ext {a b : Ce} (h1 : a.op = b.op) (h2 : a.num = b.num) (h3 : a.kids = b.kids) : a = b := by cases a; cases b; simp_all
theorem shortP_zero (g : List Ce) : shortP g 0 0 = g := by
  refine List.ext_getElem (shortP_len g 0 0) fun j h1 h2 => ?_
  rw [shortP_at g 0 0 j h2]
  refine ce_ext rfl rfl (List.ext_getElem (by simp) fun q h3 h4 => ?_)
  simp only [List.getElem_mapIdx]
  rw [if_neg (by omega)]
theorem shortP_end (g : List Ce) : shortP g g.length 0 = shortG g := by
  refine List.ext_getElem (by rw [shortP_len, shortG_len]) fun j h1 h2 => ?_
  rw [shortG_len] at h2
  rw [shortP_at g _ 0 j h2, shortG_at g j h2]
  unfold shortC
  refine ce_ext rfl rfl (List.ext_getElem (by simp) fun q h3 h4 => ?_)
  simp only [List.getElem_mapIdx, List.getElem_map]
  rw [if_pos (Or.inl h2)]
theorem shortP_next (g : List Ce) (i k : Nat) (hi : i < g.length) (hk : g[i].kids.length ≤ k) : shortP g i k = shortP g (i + 1) 0 := by
  refine List.ext_getElem (by rw [shortP_len, shortP_len]) fun j h1 h2 => ?_
  rw [shortP_len] at h2
  rw [shortP_at g i k j h2, shortP_at g (i + 1) 0 j h2]
  refine ce_ext rfl rfl (List.ext_getElem (by simp) fun q h3 h4 => ?_)
  simp only [List.getElem_mapIdx]
  simp only [List.length_mapIdx] at h3
  have e : (j < i ∨ (j = i ∧ q < k)) ↔ (j < i + 1 ∨ (j = i + 1 ∧ q < 0)) := by
    by_cases hji : j = i
    · subst hji; constructor <;> intro _ <;> omega
    · omega
  by_cases h : j < i ∨ (j = i ∧ q < k)
  · rw [if_pos h, if_pos (e.1 h)]
  · rw [if_neg h, if_neg (fun h2 => h (e.2 h2))]
theorem shortP_kid (g : List Ce) (i k : Nat) (hi : i < g.length) (hk : k < g[i].kids.length) : ((shortP g i k)[i]'(by rw [shortP_len]; exact hi)).kids.length = g[i].kids.length ∧ ∀ h, ((shortP g i k)[i]'(by rw [shortP_len]; exact hi)).kids[k]'h = g[i].kids[k] := by
  refine ⟨by rw [shortP_at g i k i hi]; simp, fun h => ?_⟩
  simp only [shortP_at g i k i hi, List.getElem_mapIdx]
  rw [if_neg (by omega)]
theorem shortP_klen (g : List Ce) (i k : Nat) (hi : i < g.length) : ((shortP g i k)[i]'(by rw [shortP_len]; exact hi)).kids.length = g[i].kids.length := by rw [shortP_at g i k i hi]; simp
theorem shortP_step (g : List Ce) (i k : Nat) (hi : i < g.length) (hk : k < g[i].kids.length) : setKid (shortP g i k) i k (skipN g (g[i].kids[k]).toNat : Int) = shortP g i (k + 1) := by
  refine List.ext_getElem (by rw [setKid_len, shortP_len, shortP_len]) fun j h1 h2 => ?_
  rw [shortP_len] at h2
  rw [setKid_at _ _ _ _ j (by rw [shortP_len]; exact h2), shortP_at g i (k + 1) j h2, shortP_at g i k j h2]
  split
  · rename_i e
    subst e
    refine ce_ext rfl rfl (List.ext_getElem (by simp) fun q h3 h4 => ?_)
    simp only [List.getElem_set, List.getElem_mapIdx]
    by_cases hq : k = q
    · subst hq
      rw [if_pos rfl]
      exact (if_pos (Or.inr ⟨trivial, Nat.lt_succ_self _⟩)).symm
    · rw [if_neg hq]
      by_cases h : q < k
      · rw [if_pos (Or.inr ⟨trivial, h⟩)]
        exact (if_pos (Or.inr ⟨trivial, Nat.lt_succ_of_lt h⟩)).symm
      · have h1 : ¬ (i < i ∨ (True ∧ q < k)) := by simp; omega
        have h2 : ¬ (i < i ∨ (True ∧ q < k + 1)) := by simp; omega
        rw [if_neg h1]
        exact (if_neg h2).symm
  · rename_i e
    refine ce_ext rfl rfl (List.ext_getElem (by simp) fun q h3 h4 => ?_)
    simp only [List.getElem_mapIdx]
    by_cases h : j < i
    · rw [if_pos (Or.inl h)]
      exact (if_pos (Or.inl h)).symm
    · have h1 : ¬ (j < i ∨ (j = i ∧ q < k)) := by omega
      have h2 : ¬ (j < i ∨ (j = i ∧ q < k + 1)) := by omega
      rw [if_neg h1]
      exact (if_neg h2).symm
end Go.Proofs.YtiipcgnkfhjpeaaGreatDoor
