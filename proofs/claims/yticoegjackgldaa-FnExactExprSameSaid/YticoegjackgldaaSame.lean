/-
  THE PROGRAM's ExprSame: are two trees equal? Nothing that was there is changed.
-/
import Derived.Test.YticoegjackgldaaPairK
import Derived.Test.YticoegjackgldaaAppW
import Derived.Deep.LoopGhost
import Derived.Deep.QuietTactic
import Derived.BigQuiet
import Derived.WalkSmall
namespace Go.Proofs.Yticoegjackgldaa
set_option linter.unusedVariables false
set_option linter.unusedSimpArgs false
open Go.RowKit

theorem cellsOf_lt' {w : World} {b : Nat} {o : Obj} (h : w.heap[b]? = some o) : b < w.heap.size := (Array.getElem?_eq_some_iff.1 h).1
/-- what holds at the head of the search -/
def SRel (wx : World) (B : Nat) (a b : Tr) (n : Nat) (v : Value) (wr : World) : Prop :=
  ∃ (l : List Wk) (M : Mp), n = wkSz l ∧ wr.ownsRow (B + 3) 72 2 v l.length (wkCells l) ∧ (∃ g cap, v = .slice (some ⟨g, 0, none⟩) l.length cap) ∧ PMap emb2 wr (B + 2) (Pair2 wx (Pl wx)) M ∧ (∀ k u, M k = some u → u = .bool true) ∧
    (∀ e ∈ l, WkOk wx (Pl wx) (a = b) e) ∧ wkSz l ≤ 1 + szT a ∧ Inv wx (Pl wx) (⟨B, 0, none⟩, ⟨B + 1, 0, none⟩) M l none ∧ Below wx.heap.size wx wr

/-- what holds of the operands' loop -/
def IRel (wx : World) (B XB : Nat) (a b : Tr) (l' : List Wk) (e : Wk) (k : Nat) (v : Value) (ws : World) : Prop :=
  ∃ (l2 : List Wk) (M2 : Mp), ws.ownsRow (B + 3) 72 2 v l2.length (wkCells l2) ∧ (∃ g cap, v = .slice (some ⟨g, 0, none⟩) l2.length cap) ∧ v.ownBlock ≠ some XB ∧ ws.heap[XB]? = some (.cells #[.pointer (some e.x), .pointer (some e.y)] 72) ∧
    PMap emb2 ws (B + 2) (Pair2 wx (Pl wx)) M2 ∧ (∀ k u, M2 k = some u → u = .bool true) ∧ (∀ d ∈ l2, WkOk wx (Pl wx) (a = b) d) ∧ wkSz l2 ≤ wkSz l' + szL (e.s.kids.take k) ∧
    Inv wx (Pl wx) (⟨B, 0, none⟩, ⟨B + 1, 0, none⟩) M2 l2 (some e.key) ∧ KidsSeen wx M2 e.key k ∧ Below wx.heap.size wx ws

theorem iRel_push {wx w1 w3 : World} {B XB k g2 cp2 : Nat} {a b : Tr} {l' l2 : List Wk} {e : Wk} {M2 : Mp} {z z' : Addr} {v' : Value} {o : Obj} (hb : Below wx.heap.size wx w1) (hbox : w1.heap[XB]? = some (.cells #[.pointer (some e.x), .pointer (some e.y)] 72))
    (hp : PMap emb2 w1 (B + 2) (Pair2 wx (Pl wx)) (pput M2 (z, z') (.bool true))) (hM : ∀ k u, M2 k = some u → u = .bool true) (hl : ∀ d ∈ l2, WkOk wx (Pl wx) (a = b) d) (hsz : wkSz l2 ≤ wkSz l' + szL (e.s.kids.take k))
    (hI : Inv wx (Pl wx) (⟨B, 0, none⟩, ⟨B + 1, 0, none⟩) M2 l2 (some e.key)) (hks : KidsSeen wx M2 e.key k) (hax : KidAt wx e.x k z) (hay : KidAt wx e.y k z') {hk : k < e.s.kids.length} {hk' : k < e.t.kids.length} (hlx : LiesAt wx (Pl wx) z e.s.kids[k]) (hly : LiesAt wx (Pl wx) z' e.t.kids[k])
    (hxy : a = b → e.s = e.t) (hk2 : k < e.s.kids.length) (hnb : (Value.slice (some ⟨g2, 0, none⟩) l2.length cp2).ownBlock ≠ some XB)
    (hown : w3.ownsRow (B + 3) 72 2 v' (l2.length + 1) (wkCells l2 ++ [.pointer (some z), .pointer (some z')])) (hg : (w1.alloc o).grownBy w3 (Value.slice (some ⟨g2, 0, none⟩) l2.length cp2).ownBlock)
    (hw : v'.ownBlock = (Value.slice (some ⟨g2, 0, none⟩) l2.length cp2).ownBlock ∨ ∃ g, v'.ownBlock = some g ∧ (w1.alloc o).heap.size ≤ g) (hXB : XB < w1.heap.size) (hg2 : B + 2 < w1.heap.size) (hB : wx.heap.size = B + 2) (hgl : B + 3 ≤ g2) :
    IRel wx B XB a b l' e (k + 1) v' w3 := by
  have hal := Deep.nblk_alloc w1 o
  have hob : ∀ j, j < w1.heap.size → j ≠ g2 → w3.heap[j]? = w1.heap[j]? := fun j hj hne => (hg.block j (by rw [hal]; omega) (by simp only [Value.ownBlock, ne_eq, Option.some.injEq]; exact hne)).trans (Deep.blk_alloc_lt _ _ _ hj)
  have hnb' : g2 ≠ XB := by simpa [Value.ownBlock] using hnb
  obtain ⟨g3, c3, rfl, -, -, -⟩ := own_form hown (by omega)
  refine ⟨l2 ++ [⟨z, z', e.s.kids[k], e.t.kids[k]⟩], pput M2 (z, z') (.bool true), ?_, ⟨g3, c3, by simp⟩, ?_, (hob _ hXB (Ne.symm hnb')).trans hbox, hp.keep (hob _ hg2 (by omega)), ?_, ?_, ?_, ?_, (hks.put).succ hax hay (Or.inr (by rw [pput_same]; rfl)), ?_⟩
  · rw [wkCells_snoc]; simpa using hown
  · rcases hw with hw | ⟨g, hw, hge⟩
    · rw [hw]; exact hnb
    · rw [hw]; intro h; simp only [Option.some.injEq] at h; rw [hal] at hge; omega
  · intro y u hy
    by_cases hyk : y = (z, z')
    · subst hyk; rw [pput_same] at hy; cases hy; rfl
    · rw [pput_other _ _ hyk] at hy; exact hM _ _ hy
  · intro d hd
    rw [List.mem_append] at hd
    rcases hd with hd | hd
    · exact hl d hd
    · rw [List.mem_singleton] at hd
      subst hd
      refine ⟨hlx, hly, fun h => ?_⟩
      have := hxy h
      simp only [this]
  · rw [wkSz_snoc, szL_take_succ _ _ hk]
    simp only
    omega
  · have := hI.push ⟨z, z', e.s.kids[k], e.t.kids[k]⟩ (.bool true)
    exact this
  · exact ⟨by rw [hg.os]; exact hb.os, by rw [hg.tape]; exact hb.tape, by rw [hg.output]; exact hb.output, Nat.le_trans hb.size (by have := hg.size; rw [hal] at this; omega), fun j hj => (hob j (by have := hb.size; omega) (by omega)).trans (hb.block j hj)⟩

set_option maxRecDepth 100000 in
set_option maxHeartbeats 3200000 in
theorem implSame_calls (a b : Tr) (c d : Value) (w : World) (hc : InP w a.kids c) (hd : InP w b.kids d) (ha : I64 a.op ∧ I64 a.num) (hb : I64 b.op ∧ I64 b.num) (hz : szT a ≤ 1099511627776) :
    Calls Try.prog 23 #[.agg #[.int .i64 a.op, .int .i64 a.num, c], .agg #[.int .i64 b.op, .int .i64 b.num, d]] w fun e w' => (∃ v : Bool, e = .returned (.bool v) ∧ (v = true ↔ a = b)) ∧ Below w.heap.size w w' := by
  have HC : Hid (InP w a.kids c) := hc
  have HD : Hid (InP w b.kids d) := hd
  have hmm := @run_makeMap Try.prog
  obtain ⟨ad, cap, rfl, -, -, -⟩ := hc
  obtain ⟨ad', cap', rfl, -, -, -⟩ := hd
  obtain ⟨wx, hwx⟩ : ∃ wx : World, wx = (w.alloc (.cells #[.int .i64 a.op, .int .i64 a.num, .slice ad a.kids.length cap] 29)).alloc (.cells #[.int .i64 b.op, .int .i64 b.num, .slice ad' b.kids.length cap'] 29) := ⟨_, rfl⟩
  have hxs : wx.heap.size = w.heap.size + 2 := by rw [hwx, Deep.nblk_alloc, Deep.nblk_alloc]
  have HX : Hid (wx = (w.alloc (.cells #[.int .i64 a.op, .int .i64 a.num, .slice ad a.kids.length cap] 29)).alloc (.cells #[.int .i64 b.op, .int .i64 b.num, .slice ad' b.kids.length cap'] 29)) := hwx
  have HXS : Hid (wx.heap.size = w.heap.size + 2) := hxs
  have hbx : Below w.heap.size w wx := by rw [hwx]; exact (box_below w _).trans ((box_below _ _).mono (by simp))
  have HBX : Hid (Below w.heap.size w wx) := hbx
  have hla : LiesAt wx (Pl wx) ⟨w.heap.size, 0, none⟩ a := by
    refine ⟨w.heap.size, 0, .int .i64 a.op, .int .i64 a.num, .slice ad a.kids.length cap, rfl, ⟨by omega, #[.int .i64 a.op, .int .i64 a.num, .slice ad a.kids.length cap], 29, ?_⟩, ?_, ?_, ?_, trOn_iff.2 ⟨rfl, rfl, ha.1, ha.2, HC.out.nextP hbx⟩⟩
    · rw [hwx, Deep.blk_alloc_lt _ _ _ (by simp)]; exact Deep.blk_alloc_new _ _
    · rw [hwx]; exact old_cell (box_cell w _ _ 0 _ rfl) _
    · rw [hwx]; exact old_cell (box_cell w _ _ 1 _ rfl) _
    · rw [hwx]; exact old_cell (box_cell w _ _ 2 _ rfl) _
  have hlb : LiesAt wx (Pl wx) ⟨w.heap.size + 1, 0, none⟩ b := by
    have bc := fun i v h => box_cell (w.alloc (.cells #[.int .i64 a.op, .int .i64 a.num, .slice ad a.kids.length cap] 29)) #[.int .i64 b.op, .int .i64 b.num, .slice ad' b.kids.length cap'] 29 i v h
    rw [Deep.nblk_alloc, ← hwx] at bc
    refine ⟨w.heap.size + 1, 0, .int .i64 b.op, .int .i64 b.num, .slice ad' b.kids.length cap', rfl, ⟨by omega, #[.int .i64 b.op, .int .i64 b.num, .slice ad' b.kids.length cap'], 29, ?_⟩, bc 0 _ rfl, bc 1 _ rfl, bc 2 _ rfl, trOn_iff.2 ⟨rfl, rfl, hb.1, hb.2, HD.out.nextP hbx⟩⟩
    have := Deep.blk_alloc_new (w.alloc (.cells #[.int .i64 a.op, .int .i64 a.num, .slice ad a.kids.length cap] 29)) (.cells #[.int .i64 b.op, .int .i64 b.num, .slice ad' b.kids.length cap'] 29)
    rw [Deep.nblk_alloc, ← hwx] at this
    exact this
  have HLA : Hid (LiesAt wx (Pl wx) ⟨w.heap.size, 0, none⟩ a) := hla
  have HLB : Hid (LiesAt wx (Pl wx) ⟨w.heap.size + 1, 0, none⟩ b) := hlb
  clear ha hb hwx hxs hbx hla hlb
  go_enter Try.func23, Try.ntmps23
  go_wp2_with fail
  clear hmm
  obtain ⟨iE, zE, hiE, hzE, hsE, hbE, hcE⟩ := infoPair
  have HE : Hid (Try.prog.info? 72 = some iE ∧ iE.zero = some zE ∧ iE.size = 2 ∧ iE.bytes = 16 ∧ zE.cells.size = 2) := ⟨hiE, hzE, hsE, hbE, hcE⟩
  clear hiE hzE hsE hbE hcE
  go_loopg [6] (1 + szT a) (fun n v wr => SRel wx w.heap.size a b n v wr)
  case atStart =>
    refine ⟨[⟨⟨w.heap.size, 0, none⟩, ⟨w.heap.size + 1, 0, none⟩, a, b⟩], fun _ => none, by simp [wkSz], ?_, ⟨_, _, rfl⟩, ?_, fun k u h => by simp at h, ?_, by simp [wkSz], Inv.start _ _ ⟨⟨w.heap.size, 0, none⟩, ⟨w.heap.size + 1, 0, none⟩, a, b⟩, ?_⟩
    · rw [← HX.out]
      have h := Deep.blk_alloc_new (wx.alloc (.map #[] 0)) (.cells #[.pointer (some ⟨w.heap.size, 0, none⟩), .pointer (some ⟨w.heap.size + 1, 0, none⟩)] 72)
      rw [Deep.nblk_alloc, HXS.out] at h
      exact ⟨rfl, Or.inr ⟨_, 1, _, rfl, Nat.le_refl _, h, Nat.le_refl _, by unfold maxLen; omega, rfl, rfl⟩⟩
    · rw [← HX.out]
      have h := PMap.made (emb := emb2) wx (Pair2 wx (Pl wx))
      rw [HXS.out] at h
      exact h.keep (Deep.blk_alloc_lt _ _ _ (by simp [HXS.out]))
    · intro e he
      rw [List.mem_singleton] at he
      subst he
      exact ⟨HLA.out, HLB.out, id⟩
    · rw [← HX.out]
      exact (box_below wx _).trans ((box_below _ _).mono (by simp))
  case round =>
    obtain ⟨wo, rfl⟩ : ∃ wo : World, wo = wr := ⟨_, rfl⟩
    obtain ⟨l, M, rfl, hown, ⟨g, cp, rfl⟩, hmap, hM, hl, hsz, hinv, hb⟩ := hrel
    have HM : Hid (∀ k u, M k = some u → u = .bool true) := hM
    have HP : Hid (PMap emb2 wo (w.heap.size + 2) (Pair2 wx (Pl wx)) M) := hmap
    have HI : Hid (Inv wx (Pl wx) (⟨w.heap.size, 0, none⟩, ⟨w.heap.size + 1, 0, none⟩) M l none) := hinv
    have HL : Hid (∀ e ∈ l, WkOk wx (Pl wx) (a = b) e) := hl
    have HB : Hid (Below wx.heap.size wx wo) := hb
    have HO : Hid (wo.ownsRow (w.heap.size + 3) 72 2 (.slice (some ⟨g, 0, none⟩) l.length cp) l.length (wkCells l)) := hown
    clear hM hmap hinv hl hb hown
    have hln := wkSz_len l
    rcases List.eq_nil_or_concat l with hnil | ⟨l', e, he⟩
    · have hl0 : l.length = 0 := by rw [hnil]; rfl
      have HT : Hid (a = b) := by
        subst hnil
        exact HI.out.done (szT a) _ a b (Nat.le_refl _) (Or.inl rfl) HLA.out HLB.out
      clear hnil
      rw [hl0]
      go_wp2_with fail
      go_ret
      exact ⟨⟨true, rfl, by simpa using HT.out⟩, HBX.out.trans (HB.out.mono (by have := HXS.out; omega))⟩
    · subst he
      rw [List.concat_eq_append] at *
      have hll : (l' ++ [e]).length = l'.length + 1 := by simp
      have HLL : Hid ((l' ++ [e]).length = l'.length + 1) := hll
      rw [hll]
      have hlen : l'.length + 1 ≤ 1099511627777 := by omega
      have HSZ : Hid (wkSz (l' ++ [e]) ≤ 1 + szT a) := hsz
      have hcp : l'.length + 1 ≤ cp ∧ cp ≤ maxLen := by
        obtain ⟨g2, c2, e2, -, -, h1, h2⟩ := own_form HO.out (by rw [hll]; omega)
        cases e2
        exact ⟨by rw [hll] at h1; exact h1, h2⟩
      obtain ⟨hcp, hcm⟩ := hcp
      unfold maxLen at hcm
      clear hln hsz
      obtain ⟨hx, hy, hxy⟩ := HL.out e (by simp)
      have HXY : Hid (a = b → e.s = e.t) := hxy
      clear hxy
      have HEx : Hid (LiesAt wx (Pl wx) e.x e.s) := hx
      have HEy : Hid (LiesAt wx (Pl wx) e.y e.t) := hy
      obtain ⟨xb, xo, x0, x1, x2, hxe, hxp, cx0, cx1, cx2, htx⟩ := hx
      obtain ⟨yb, yo, y0, y1, y2, hye, hyp, cy0, cy1, cy2, hty⟩ := hy
      obtain ⟨rfl, rfl, iox, inx, hkx⟩ := trOn_iff.1 htx
      obtain ⟨rfl, rfl, ioy, iny, hky⟩ := trOn_iff.1 hty
      have HKX : Hid (KidsOn wx (Pl wx) e.s.kids x2) := hkx
      have HKY : Hid (KidsOn wx (Pl wx) e.t.kids y2) := hky
      obtain ⟨adx, capx, rfl, -, hmx, -⟩ := hkx
      obtain ⟨ady, capy, rfl, -, hmy, -⟩ := hky
      unfold maxLen at hmx hmy
      have p0 : wo.cell? ⟨g, l'.length * 2, none⟩ = some (.pointer (some ⟨xb, xo, none⟩)) := by
        rw [← hxe]; exact own_at HO.out _ _ (by rw [wkCells_snoc, List.getElem?_append_right (by rw [wkCells_length]; omega), wkCells_length]; simp)
      have p1 : wo.cell? ⟨g, l'.length * 2 + 1, none⟩ = some (.pointer (some ⟨yb, yo, none⟩)) := by
        rw [← hye]; exact own_at HO.out _ _ (by rw [wkCells_snoc, List.getElem?_append_right (by rw [wkCells_length]; omega), wkCells_length]; simp)
      have q0 := (HB.out.cell (p := ⟨xb, xo, none⟩) hxp.1).trans cx0
      have q1 := (HB.out.cell (p := ⟨xb, xo + 1, none⟩) hxp.1).trans cx1
      have q2 := (HB.out.cell (p := ⟨xb, xo + 2, none⟩) hxp.1).trans cx2
      have r0 := (HB.out.cell (p := ⟨yb, yo, none⟩) hyp.1).trans cy0
      have r1 := (HB.out.cell (p := ⟨yb, yo + 1, none⟩) hyp.1).trans cy1
      have r2 := (HB.out.cell (p := ⟨yb, yo + 2, none⟩) hyp.1).trans cy2
      have HCX : Hid (wx.cell? ⟨xb, xo + 2, none⟩ = some (.slice adx e.s.kids.length capx)) := cx2
      have HCY : Hid (wx.cell? ⟨yb, yo + 2, none⟩ = some (.slice ady e.t.kids.length capy)) := cy2
      have HPX : Hid (xb < wx.heap.size ∧ yb < wx.heap.size) := ⟨hxp.1, hyp.1⟩
      have HXE : Hid (e.x = ⟨xb, xo, none⟩ ∧ e.y = ⟨yb, yo, none⟩) := ⟨hxe, hye⟩
      have hxl : xb < wo.heap.size := Nat.lt_of_lt_of_le hxp.1 HB.out.size
      have hyl : yb < wo.heap.size := Nat.lt_of_lt_of_le hyp.1 HB.out.size
      clear hxe hye cx0 cx1 cx2 cy0 cy1 cy2 htx hty hxp hyp hll
      have HF : ∀ o : Obj, Below w.heap.size w (wo.alloc o) := fun o => HBX.out.trans ((HB.out.trans ((box_below wo o).mono HB.out.size)).mono (by have := HXS.out; omega))
      have HF : Hid (∀ o : Obj, Below w.heap.size w (wo.alloc o)) := HF
      by_cases ho : e.s.op = e.t.op
      · by_cases hn : e.s.num = e.t.num
        · by_cases hkl : e.s.kids.length = e.t.kids.length
          · have t1 : (e.s.op != e.t.op) = false := by simpa using ho
            have t2 : (e.s.num != e.t.num) = false := by simpa using hn
            have t3 : ((e.s.kids.length : Int) != e.t.kids.length) = false := by simp [hkl]
            have HS : Hid (e.s.op = e.t.op ∧ e.s.num = e.t.num ∧ e.s.kids.length = e.t.kids.length) := ⟨ho, hn, hkl⟩
            have hxL : e.s.kids.length ≤ 1099511627776 := by
              have h1 := HSZ.out
              rw [wkSz_snoc, szT_eq, szL_sum] at h1
              omega
            clear ho hn hkl
            go_wp2_with fail
            go_quiet (fail)
            go_wp2_with fail
            go_loopw [6, 72] (fun v i wr => ∃ k : Nat, k ≤ e.s.kids.length ∧ i = .int .i64 k ∧ IRel wx w.heap.size wo.heap.size a b l' e k v wr) (fun _ i _ => e.s.kids.length - (intOf i).toNat)
            case atStart =>
              refine ⟨0, Nat.zero_le _, rfl, l', M, ?_, ⟨_, _, rfl⟩, ?_, ?_, ?_, HM.out, fun d hd => HL.out d (by simp [hd]), by simp [szL], HI.out.pop, KidsSeen.zero _ _ _, ?_⟩
              · have h1 := HO.out
                rw [HLL.out, wkCells_snoc] at h1
                exact own_keep (own_cut h1 (wkCells_length l') (by omega)) (fun k _ hk => Deep.blk_alloc_lt _ _ k hk)
              · intro h
                have h2 := own_form HO.out (by rw [HLL.out]; omega)
                obtain ⟨g2, c2, e2, -, hg2, -⟩ := h2
                cases e2
                simp only [Value.ownBlock, Option.some.injEq] at h
                omega
              · have := Deep.blk_alloc_new wo (.cells #[.pointer (some ⟨xb, xo, none⟩), .pointer (some ⟨yb, yo, none⟩)] 72)
                rw [HXE.out.1, HXE.out.2]
                exact this
              · exact HP.out.keep (Deep.blk_alloc_lt _ _ _ HP.out.lt)
              · exact below_drewN (HB.out.trans ((box_below wo _).mono HB.out.size)) _
            case round =>
              obtain ⟨k, hk, rfl, l2, M2, hown, ⟨g2, cp2, rfl⟩, hnb, hbox, hmap, hM, hl, hsz2, hinv, hks, hb⟩ := hrel
              have HM2 : Hid (∀ k u, M2 k = some u → u = .bool true) := hM
              have HP2 : Hid (PMap emb2 wr (w.heap.size + 2) (Pair2 wx (Pl wx)) M2) := hmap
              have HI2 : Hid (Inv wx (Pl wx) (⟨w.heap.size, 0, none⟩, ⟨w.heap.size + 1, 0, none⟩) M2 l2 (some e.key)) := hinv
              have HL2 : Hid (∀ d ∈ l2, WkOk wx (Pl wx) (a = b) d) := hl
              have HB2 : Hid (Below wx.heap.size wx wr) := hb
              have HO2 : Hid (wr.ownsRow (w.heap.size + 3) 72 2 (.slice (some ⟨g2, 0, none⟩) l2.length cp2) l2.length (wkCells l2)) := hown
              have HNB : Hid ((Value.slice (some ⟨g2, 0, none⟩) l2.length cp2).ownBlock ≠ some wo.heap.size) := hnb
              have HKS : Hid (KidsSeen wx M2 e.key k) := hks
              have HSZ2 : Hid (wkSz l2 ≤ wkSz l' + szL (e.s.kids.take k)) := hsz2
              have HBOX : Hid (wr.heap[wo.heap.size]? = some (.cells #[.pointer (some e.x), .pointer (some e.y)] 72)) := hbox
              have c0 := cell_of_blk hbox 0 _ rfl
              have c1 := cell_of_blk hbox 1 _ rfl
              rw [HXE.out.1] at c0
              rw [HXE.out.2] at c1
              have s2 := (HB2.out.cell (p := ⟨xb, xo + 2, none⟩) HPX.out.1).trans HCX.out
              have u2 := (HB2.out.cell (p := ⟨yb, yo + 2, none⟩) HPX.out.2).trans HCY.out
              have hg2 : Hid (w.heap.size + 3 ≤ g2) := own_block HO2.out rfl
              have hob : wo.heap.size < wr.heap.size := cellsOf_lt' hbox
              have hxl2 : xb < wr.heap.size := Nat.lt_of_lt_of_le HPX.out.1 HB2.out.size
              have hyl2 : yb < wr.heap.size := Nat.lt_of_lt_of_le HPX.out.2 HB2.out.size
              clear hM hmap hinv hl hb hown hnb hks hsz2 hbox hxl hyl
              by_cases hlt : k < e.s.kids.length
              · have hlt' : k < e.t.kids.length := by have := HS.out.2.2; omega
                obtain ⟨_, _, he, -, -, hr⟩ := HKX.out
                cases he
                rcases hr with hnil | ⟨xkb, xko, rfl, hxk, hrx⟩
                · rw [hnil] at hlt; simp at hlt
                obtain ⟨_, _, he, -, -, hr⟩ := HKY.out
                cases he
                rcases hr with hnil | ⟨ykb, yko, rfl, hyk, hry⟩
                · rw [hnil] at hlt'; simp at hlt'
                have HLX : Hid (LiesAt wx (Pl wx) ⟨xkb, xko + k * 3, none⟩ e.s.kids[k]) := RowOn.liesAt hlt hxk hrx
                have HLY : Hid (LiesAt wx (Pl wx) ⟨ykb, yko + k * 3, none⟩ e.t.kids[k]) := RowOn.liesAt hlt' hyk hry
                have HAX : Hid (KidAt wx e.x k ⟨xkb, xko + k * 3, none⟩) := ⟨xb, xo, xkb, xko, _, _, HXE.out.1, HCX.out, rfl⟩
                have HAY : Hid (KidAt wx e.y k ⟨ykb, yko + k * 3, none⟩) := ⟨yb, yo, ykb, yko, _, _, HXE.out.2, HCY.out, rfl⟩
                clear hrx hry hxk hyk
                go_wp2_with fail
                go_region
                go_step
                go_step
                obtain ⟨wk, hwk⟩ : ∃ wk : World, wk = (wr.alloc (.cells #[.pointer (some ⟨xkb, xko + k * 3, none⟩), .pointer (some ⟨ykb, yko + k * 3, none⟩)] 72)).drew := ⟨_, rfl⟩
                rw [← hwk]
                have hX : ∀ j, j < wr.heap.size → wk.heap[j]? = wr.heap[j]? := fun j hj => by rw [hwk]; exact Deep.blk_alloc_lt _ _ j hj
                have hkk : wk.heap[wr.heap.size]? = some (.cells #[.pointer (some ⟨xkb, xko + k * 3, none⟩), .pointer (some ⟨ykb, yko + k * 3, none⟩)] 72) := by rw [hwk]; exact Deep.blk_alloc_new _ _
                have hks : wk.heap.size = wr.heap.size + 1 := by rw [hwk]; exact Deep.nblk_alloc _ _
                have HBk : Hid (Below wx.heap.size wx wk) := by rw [hwk]; exact HB2.out.trans ((box_below wr _).drew.mono HB2.out.size)
                have HOk : Hid (wk.ownsRow (w.heap.size + 3) 72 2 (.slice (some ⟨g2, 0, none⟩) l2.length cp2) l2.length (wkCells l2)) := own_keep HO2.out (fun j _ hj => hX j hj)
                have HPk : Hid (PMap emb2 wk (w.heap.size + 2) (Pair2 wx (Pl wx)) M2) := HP2.out.keep (hX _ HP2.out.lt)
                have HXk : Hid (wk.heap[wo.heap.size]? = some (.cells #[.pointer (some e.x), .pointer (some e.y)] 72)) := (hX _ hob).trans HBOX.out
                have hpx : PlainAt wk ⟨xkb, xko + k * 3, none⟩ := HLX.out.plain HBk.out
                have hpy : PlainAt wk ⟨ykb, yko + k * 3, none⟩ := HLY.out.plain HBk.out
                have hne := neq_exprPtr wk _ _ hpx hpy
                have hK2 : ∀ y, Pair2 wx (Pl wx) y → ok2 wk y := fun y hy => by obtain ⟨s, t, h1, h2⟩ := hy; exact ⟨h1.plain HBk.out, h2.plain HBk.out⟩
                have hlook := (HPk.out.look pairK Try.underlying69 hK2 (zeroBl wk) (⟨xkb, xko + k * 3, none⟩, ⟨ykb, yko + k * 3, none⟩) ⟨hpx, hpy⟩).1
                simp only [emb2] at hlook
                have k0 := cell_of_blk hkk 0 _ rfl
                have k1 := cell_of_blk hkk 1 _ rfl
                have HK2 : Hid (∀ y, Pair2 wx (Pl wx) y → ok2 wk y) := hK2
                have HPP : Hid (PlainAt wk ⟨xkb, xko + k * 3, none⟩ ∧ PlainAt wk ⟨ykb, yko + k * 3, none⟩) := ⟨hpx, hpy⟩
                have HSK : ∀ (hs : (⟨xkb, xko + k * 3, none⟩ : Addr) = ⟨ykb, yko + k * 3, none⟩ ∨ (M2 (⟨xkb, xko + k * 3, none⟩, ⟨ykb, yko + k * 3, none⟩)).isSome = true), IRel wx w.heap.size wo.heap.size a b l' e (k + 1) (.slice (some ⟨g2, 0, none⟩) l2.length cp2) wk := fun hs =>
                  ⟨l2, M2, HOk.out, ⟨_, _, rfl⟩, HNB.out, HXk.out, HPk.out, HM2.out, HL2.out, by have h1 := HSZ2.out; rw [szL_take_succ _ _ hlt]; omega, HI2.out, HKS.out.succ HAX.out HAY.out hs, HBk.out⟩
                have HSK : Hid _ := HSK
                have HWK : Hid (wk.heap.size = wr.heap.size + 1 ∧ ∀ j, j < wr.heap.size → wk.heap[j]? = wr.heap[j]?) := ⟨hks, hX⟩
                have hwks : wr.heap.size < wk.heap.size := by omega
                clear hpx hpy hK2 hwk hX hkk hks c0 c1 s2 u2
                by_cases hzz : (⟨xkb, xko + k * 3, none⟩ : Addr) = ⟨ykb, yko + k * 3, none⟩
                · rw [decide_eq_true hzz] at hne
                  have HR := HSK.out (Or.inl hzz)
                  have HR : Hid _ := HR
                  clear hzz hlook
                  go_wp2_with fail
                  go_roundw
                  case rel => exact ⟨k + 1, by omega, by go_num, HR.out⟩
                  case measure => simp [intOf]; omega
                · rw [decide_eq_false hzz] at hne
                  cases hMk : M2 (⟨xkb, xko + k * 3, none⟩, ⟨ykb, yko + k * 3, none⟩) with
                  | some u =>
                    have HR := HSK.out (Or.inr (by rw [hMk]; rfl))
                    have HR : Hid _ := HR
                    obtain rfl := HM2.out _ _ hMk
                    rw [hMk] at hlook
                    simp only [Option.getD_some] at hlook
                    clear hzz hMk
                    go_wp2_with fail
                    go_roundw
                    case rel => exact ⟨k + 1, by omega, by go_num, HR.out⟩
                    case measure => simp [intOf]; omega
                  | none =>
                    rw [hMk] at hlook
                    simp only [Option.getD_none] at hlook
                    clear hzz hMk
                    have hl2 : l2.length ≤ 1099511627777 := by
                      have h1 := HSZ2.out
                      have h2 := HSZ.out
                      have h3 := szL_take_le e.s.kids k
                      have h4 := wkSz_len l2
                      rw [wkSz_snoc, szT_eq] at h2
                      omega
                    have hgb : w.heap.size + 2 < wk.heap.size := HPk.out.lt
                    go_wp2_with (first
                      | (at_mapUpdate; refine wpList_store_p _ rfl _ _ _ 69 rfl 72 4 pairK Try.underlying69 (w.heap.size + 2) _ M2 rfl HPk.out HK2.out (⟨xkb, xko + k * 3, none⟩, ⟨ykb, yko + k * 3, none⟩) rfl HPP.out ⟨_, _, HLX.out, HLY.out⟩ (.bool true) rfl ?_; intro o' hp; obtain ⟨w1, hw1⟩ : ∃ w1, w1 = ({ wk with heap := wk.heap.setIfInBounds (w.heap.size + 2) o' } : World) := ⟨_, rfl⟩; rw [← hw1] at hp ⊢; have hX1 : ∀ j, j ≠ w.heap.size + 2 → w1.heap[j]? = wk.heap[j]? := (by intro j hj; rw [hw1]; exact set_other_block wk _ o' hj); have hz1 : w1.heap.size = wk.heap.size := (by rw [hw1]; exact set_size wk _ o'); have HP1 : Hid (PMap emb2 w1 (w.heap.size + 2) (Pair2 wx (Pl wx)) (pput M2 (⟨xkb, xko + k * 3, none⟩, ⟨ykb, yko + k * 3, none⟩) (.bool true))) := hp; have HB1 : Hid (Below wx.heap.size wx w1) := (by rw [hw1]; exact HBk.out.trans (set_below wk _ o' (by have := HXS.out; omega))); have k0' := (World.cell?_of_block (a := ⟨wr.heap.size, 0, none⟩) (hX1 _ (by have := HP2.out.lt; show wr.heap.size ≠ _; omega))).trans k0; have k1' := (World.cell?_of_block (a := ⟨wr.heap.size, 1, none⟩) (hX1 _ (by have := HP2.out.lt; show wr.heap.size ≠ _; omega))).trans k1; have HO1 : Hid (w1.ownsRow (w.heap.size + 3) 72 2 (.slice (some ⟨g2, 0, none⟩) l2.length cp2) l2.length (wkCells l2)) := own_keep HOk.out (fun j hj _ => hX1 j (by omega)); have HX1 : Hid (w1.heap[wo.heap.size]? = some (.cells #[.pointer (some e.x), .pointer (some e.y)] 72)) := (hX1 _ (by have := HP.out.lt; omega)).trans HXk.out; have HZ1 : Hid (w1.heap.size = wk.heap.size) := hz1; have hgb1 : w.heap.size + 2 < w1.heap.size := (by omega); clear hX1 hw1 hp k0 k1 hz1 hgb hlook hne)
                      | (at_builtin; refine wpList_append_where _ rfl _ _ 73 rfl (w.heap.size + 3) 72 iE zE 2 16 Try.underlying73 HE.out.1 HE.out.2.1 HE.out.2.2.1 HE.out.2.2.2.1 HE.out.2.2.2.2 (by decide) _ _ _ rfl (own_keep HO1.out (fun j _ hj => Deep.blk_alloc_lt _ _ j hj)) ⟨w1.heap.size, 0, none⟩ 1 1 [.pointer (some ⟨xkb, xko + k * 3, none⟩), .pointer (some ⟨ykb, yko + k * 3, none⟩)] rfl rfl (fun j u hu => box2_cell w1 _ _ j u (by simpa using hu)) (by simp [Value.oneCell']) (by unfold maxLen; omega) (by omega) (by rw [Deep.nblk_alloc]; omega) (by omega) ?_; intro v' w3 hown' hgrow hwh; have HW3 : Hid (IRel wx w.heap.size wo.heap.size a b l' e (k + 1) v' w3) := iRel_push HB1.out HX1.out HP1.out HM2.out HL2.out HSZ2.out HI2.out HKS.out HAX.out HAY.out HLX.out HLY.out HXY.out hlt HNB.out hown' hgrow hwh (by have := HZ1.out; have := HWK.out.1; omega) (by omega) HXS.out hg2.out; obtain ⟨g3, c3, rfl, -⟩ := own_form hown' (by omega); clear hown' hgrow hwh k0' k1'))
                    go_roundw
                    case rel => exact ⟨k + 1, by omega, by go_num, HW3.out⟩
                    case measure => simp [intOf]; omega
              · have hke : k = e.s.kids.length := by omega
                have HF2 : Hid (SRel wx w.heap.size a b (wkSz l2) (.slice (some ⟨g2, 0, none⟩) l2.length cp2) wr ∧ wkSz l2 < wkSz (l' ++ [e])) := by
                  have h1 := HSZ2.out
                  have h2 := HSZ.out
                  have h3 := HKS.out
                  rw [hke] at h1 h3
                  rw [List.take_length] at h1
                  rw [wkSz_snoc, szT_eq] at h2
                  refine ⟨⟨l2, M2, rfl, HO2.out, ⟨_, _, rfl⟩, HP2.out, HM2.out, HL2.out, by omega, HI2.out.close (Done.of (HL.out e (by simp)) HS.out.1 HS.out.2.1 HS.out.2.2 h3), HB2.out⟩, ?_⟩
                  rw [wkSz_snoc, szT_eq]
                  omega
                clear hke
                go_wp2_with fail
                go_roundg (wkSz l2)
                case rel => exact HF2.out.1
                case measure => exact HF2.out.2
          · have t1 : (e.s.op != e.t.op) = false := by simpa using ho
            have t2 : (e.s.num != e.t.num) = false := by simpa using hn
            have t3 : ((e.s.kids.length : Int) != e.t.kids.length) = true := by simp; omega
            have HN : Hid (¬ a = b) := fun h => hkl (by rw [HXY.out h])
            clear ho hn hkl
            go_wp2_with fail
            go_quiet (fail)
            go_wp2_with fail
            go_ret
            exact ⟨⟨false, rfl, by simpa using HN.out⟩, below_drewN (HF.out _) _⟩
        · have t1 : (e.s.op != e.t.op) = false := by simpa using ho
          have t2 : (e.s.num != e.t.num) = true := by simpa using hn
          have HN : Hid (¬ a = b) := fun h => hn (by rw [HXY.out h])
          clear ho hn
          go_wp2_with fail
          go_quiet (fail)
          go_wp2_with fail
          go_ret
          exact ⟨⟨false, rfl, by simpa using HN.out⟩, below_drewN (HF.out _) _⟩
      · have t1 : (e.s.op != e.t.op) = true := by simpa using ho
        have HN : Hid (¬ a = b) := fun h => ho (by rw [HXY.out h])
        clear ho
        go_wp2_with fail
        go_quiet (fail)
        go_wp2_with fail
        go_ret
        exact ⟨⟨false, rfl, by simpa using HN.out⟩, below_drewN (HF.out _) _⟩
end Go.Proofs.Yticoegjackgldaa
