/-
  THE PROGRAM's ExprSame: are two trees equal? Nothing that was there is changed.
-/
import Derived.Test.YtekdipmioogohaaMgCodeTwo7
import Derived.Test.YtekdipmioogohaaMgCodeTwo3
import Derived.Test.YtekdipmioogohaaMgCodeTwo1
import Derived.Deep.LoopGhost
import Derived.Deep.QuietTactic
import Derived.BigQuiet
import Derived.WalkSmall
import Derived.Test.YtekdipmioogohaaMgCodeTwo4
namespace Go.Proofs.Ytekdipmioogohaa
set_option linter.unusedVariables false
set_option linter.unusedSimpArgs false
open Go.RowKit

theorem cellsOf_lt' {w : World} {b : Nat} {o : Obj} (h : w.heap[b]? = some o) : b < w.heap.size := (Array.getElem?_eq_some_iff.1 h).1
/-- what holds at the head of the search -/
def SRel (wx : World) (B : Nat) (a b : Tr) (n : Nat) (v : Value) (wr : World) : Prop :=
  ∃ (l : List Wk) (M : Mp), n = wkSz l ∧ wr.ownsRow (B + 3) 56 2 v l.length (wkCells l) ∧ (∃ g cap, v = .slice (some ⟨g, 0, none⟩) l.length cap) ∧ PMap emb2 wr (B + 2) (Pair2 wx (Pl wx)) M ∧ (∀ k u, M k = some u → u = .bool true) ∧
    (∀ e ∈ l, WkOk wx (Pl wx) (a = b) e) ∧ wkSz l ≤ 1 + szT a ∧ Inv wx (Pl wx) (⟨B, 0, none⟩, ⟨B + 1, 0, none⟩) M l none ∧ Below wx.heap.size wx wr

/-- what holds of the operands' loop -/
def IRel (wx : World) (B XB : Nat) (a b : Tr) (l' : List Wk) (e : Wk) (k : Nat) (v : Value) (ws : World) : Prop :=
  ∃ (l2 : List Wk) (M2 : Mp), ws.ownsRow (B + 3) 56 2 v l2.length (wkCells l2) ∧ (∃ g cap, v = .slice (some ⟨g, 0, none⟩) l2.length cap) ∧ v.ownBlock ≠ some XB ∧ ws.heap[XB]? = some (.cells #[.pointer (some e.x), .pointer (some e.y)] 56) ∧
    PMap emb2 ws (B + 2) (Pair2 wx (Pl wx)) M2 ∧ (∀ k u, M2 k = some u → u = .bool true) ∧ (∀ d ∈ l2, WkOk wx (Pl wx) (a = b) d) ∧ wkSz l2 ≤ wkSz l' + szL (e.s.kids.take k) ∧
    Inv wx (Pl wx) (⟨B, 0, none⟩, ⟨B + 1, 0, none⟩) M2 l2 (some e.key) ∧ KidsSeen wx M2 e.key k ∧ Below wx.heap.size wx ws

theorem iRel_push {wx w1 w3 : World} {B XB k g2 cp2 : Nat} {a b : Tr} {l' l2 : List Wk} {e : Wk} {M2 : Mp} {z z' : Addr} {v' : Value} {o : Obj} (hb : Below wx.heap.size wx w1) (hbox : w1.heap[XB]? = some (.cells #[.pointer (some e.x), .pointer (some e.y)] 56))
    (hp : PMap emb2 w1 (B + 2) (Pair2 wx (Pl wx)) (pput M2 (z, z') (.bool true))) (hM : ∀ k u, M2 k = some u → u = .bool true) (hl : ∀ d ∈ l2, WkOk wx (Pl wx) (a = b) d) (hsz : wkSz l2 ≤ wkSz l' + szL (e.s.kids.take k))
    (hI : Inv wx (Pl wx) (⟨B, 0, none⟩, ⟨B + 1, 0, none⟩) M2 l2 (some e.key)) (hks : KidsSeen wx M2 e.key k) (hax : KidAt wx e.x k z) (hay : KidAt wx e.y k z') {hk : k < e.s.kids.length} {hk' : k < e.t.kids.length} (hlx : LiesAt wx (Pl wx) z e.s.kids[k]) (hly : LiesAt wx (Pl wx) z' e.t.kids[k])
    (hxy : a = b → e.s = e.t) (hk2 : k < e.s.kids.length) (hnb : (Value.slice (some ⟨g2, 0, none⟩) l2.length cp2).ownBlock ≠ some XB)
    (hown : w3.ownsRow (B + 3) 56 2 v' (l2.length + 1) (wkCells l2 ++ [.pointer (some z), .pointer (some z')])) (hg : (w1.alloc o).grownBy w3 (Value.slice (some ⟨g2, 0, none⟩) l2.length cp2).ownBlock)
    (hw : v'.ownBlock = (Value.slice (some ⟨g2, 0, none⟩) l2.length cp2).ownBlock ∨ ∃ g, v'.ownBlock = some g ∧ (w1.alloc o).heap.size ≤ g) (hXB : XB < w1.heap.size) (hg2 : B + 2 < w1.heap.size) (hB : wx.heap.size = B + 2) (hgl : B + 3 ≤ g2) :
    IRel wx B XB a b l' e (k + 1) v' w3 := by
  have hal := Deep.nblk_alloc w1 o
  have hob : ∀ j, j < w1.heap.size → j ≠ g2 → w3.heap[j]? = w1.heap[j]? := fun j hj hne => (hg.block j (by rw [hal]; omega) (by simp only [Value.ownBlock, ne_eq, Option.some.injEq]; exact hne)).trans (Deep.blk_alloc_lt _ _ _ hj)
  have hnb' : g2 ≠ XB := by simpa [Value.ownBlock] using hnb
  obtain ⟨g3, c3, rfl, -, -, -⟩ := own_form hown (by omega)
  refine ⟨l2 ++ [⟨z, z', e.s.kids[k], e.t.kids[k]⟩], pput M2 (z, z') (.bool true), ?_, ⟨g3, c3, by simp⟩, ?_, (hob _ hXB (Ne.symm hnb')).trans hbox, hp.keep (hob _ hg2 (by omega)), ?_, ?_, ?_, ?_, (hks.put).succ hax hay (Or.inr (by rw [pput_same]; rfl)), ?_⟩
  · rw [wkCells_snoc]; simpa using hown
  · rcases hw with hw | ⟨g, hw, hge⟩
    · rw [hw]; exact hnb
    · rw [hw]; intro h; simp only [Option.some.injEq] at h; rw [hal] at hge; omega
  · intro y u hy
    by_cases hyk : y = (z, z')
    · subst hyk; rw [pput_same] at hy; cases hy; rfl
    · rw [pput_other _ _ hyk] at hy; exact hM _ _ hy
  · intro d hd
    rw [List.mem_append] at hd
    rcases hd with hd | hd
    · exact hl d hd
    · rw [List.mem_singleton] at hd
      subst hd
      refine ⟨hlx, hly, fun h => ?_⟩
      have := hxy h
      simp only [this]
  · rw [wkSz_snoc, szL_take_succ _ _ hk]
    simp only
    omega
  · have := hI.push ⟨z, z', e.s.kids[k], e.t.kids[k]⟩ (.bool true)
    exact this
  · exact ⟨by rw [hg.os]; exact hb.os, by rw [hg.tape]; exact hb.tape, by rw [hg.output]; exact hb.output, Nat.le_trans hb.size (by have := hg.size; rw [hal] at this; omega), fun j hj => (hob j (by have := hb.size; omega) (by omega)).trans (hb.block j hj)⟩

set_option maxRecDepth 100000 in
set_option maxHeartbeats 3200000 in
theorem implSame_calls (a b : Tr) (c d : Value) (w : World) (hc : InP w a.kids c) (hd : InP w b.kids d) (ha : I64 a.op ∧ I64 a.num) (hb : I64 b.op ∧ I64 b.num) (hz : szT a ≤ 1099511627776) :
    Calls Try.prog 17 #[.agg #[.int .i64 a.op, .int .i64 a.num, c], .agg #[.int .i64 b.op, .int .i64 b.num, d]] w fun e w' => (∃ v : Bool, e = .returned (.bool v) ∧ (v = true ↔ a = b)) ∧ Below w.heap.size w w' := by
  have HC : Hid (InP w a.kids c) := hc
  have HD : Hid (InP w b.kids d) := hd
  have hmm := @run_makeMap Try.prog
  obtain ⟨ad, cap, rfl, -, -, -⟩ := hc
  obtain ⟨ad', cap', rfl, -, -, -⟩ := hd
  obtain ⟨wx, hwx⟩ : ∃ wx : World, wx = (w.alloc (.cells #[.int .i64 a.op, .int .i64 a.num, .slice ad a.kids.length cap] 32)).alloc (.cells #[.int .i64 b.op, .int .i64 b.num, .slice ad' b.kids.length cap'] 32) := ⟨_, rfl⟩
  have hxs : wx.heap.size = w.heap.size + 2 := by rw [hwx, Deep.nblk_alloc, Deep.nblk_alloc]
  have HX : Hid (wx = (w.alloc (.cells #[.int .i64 a.op, .int .i64 a.num, .slice ad a.kids.length cap] 32)).alloc (.cells #[.int .i64 b.op, .int .i64 b.num, .slice ad' b.kids.length cap'] 32)) := hwx
  have HXS : Hid (wx.heap.size = w.heap.size + 2) := hxs
  have hbx : Below w.heap.size w wx := by rw [hwx]; exact (box_below w _).trans ((box_below _ _).mono (by simp))
  have HBX : Hid (Below w.heap.size w wx) := hbx
  have hla : LiesAt wx (Pl wx) ⟨w.heap.size, 0, none⟩ a := by
    refine ⟨w.heap.size, 0, .int .i64 a.op, .int .i64 a.num, .slice ad a.kids.length cap, rfl, ⟨by omega, #[.int .i64 a.op, .int .i64 a.num, .slice ad a.kids.length cap], 32, ?_⟩, ?_, ?_, ?_, trOn_iff.2 ⟨rfl, rfl, ha.1, ha.2, HC.out.nextP hbx⟩⟩
    · rw [hwx, Deep.blk_alloc_lt _ _ _ (by simp)]; exact Deep.blk_alloc_new _ _
    · rw [hwx]; exact old_cell (box_cell w _ _ 0 _ rfl) _
    · rw [hwx]; exact old_cell (box_cell w _ _ 1 _ rfl) _
    · rw [hwx]; exact old_cell (box_cell w _ _ 2 _ rfl) _
  have hlb : LiesAt wx (Pl wx) ⟨w.heap.size + 1, 0, none⟩ b := by
    have bc := fun i v h => box_cell (w.alloc (.cells #[.int .i64 a.op, .int .i64 a.num, .slice ad a.kids.length cap] 32)) #[.int .i64 b.op, .int .i64 b.num, .slice ad' b.kids.length cap'] 32 i v h
    rw [Deep.nblk_alloc, ← hwx] at bc
    refine ⟨w.heap.size + 1, 0, .int .i64 b.op, .int .i64 b.num, .slice ad' b.kids.length cap', rfl, ⟨by omega, #[.int .i64 b.op, .int .i64 b.num, .slice ad' b.kids.length cap'], 32, ?_⟩, bc 0 _ rfl, bc 1 _ rfl, bc 2 _ rfl, trOn_iff.2 ⟨rfl, rfl, hb.1, hb.2, HD.out.nextP hbx⟩⟩
    have := Deep.blk_alloc_new (w.alloc (.cells #[.int .i64 a.op, .int .i64 a.num, .slice ad a.kids.length cap] 32)) (.cells #[.int .i64 b.op, .int .i64 b.num, .slice ad' b.kids.length cap'] 32)
    rw [Deep.nblk_alloc, ← hwx] at this
    exact this
  have HLA : Hid (LiesAt wx (Pl wx) ⟨w.heap.size, 0, none⟩ a) := hla
  have HLB : Hid (LiesAt wx (Pl wx) ⟨w.heap.size + 1, 0, none⟩ b) := hlb
  clear ha hb hwx hxs hbx hla hlb
  go_enter Try.func17, Try.ntmps17
  go_wp2_with fail
  clear hmm
  obtain ⟨iE, zE, hiE, hzE, hsE, hbE, hcE⟩ := infoPair
  have HE : Hid (Try.prog.info? 56 = some iE ∧ iE.zero = some zE ∧ iE.size = 2 ∧ iE.bytes = 16 ∧ zE.cells.size = 2) := ⟨hiE, hzE, hsE, hbE, hcE⟩
  clear hiE hzE hsE hbE hcE
  go_loopg [6] (1 + szT a) (fun n v wr => SRel wx w.heap.size a b n v wr)
  case atStart =>
    refine ⟨[⟨⟨w.heap.size, 0, none⟩, ⟨w.heap.size + 1, 0, none⟩, a, b⟩], fun _ => none, by simp [wkSz], ?_, ⟨_, _, rfl⟩, ?_, fun k u h => by simp at h, ?_, by simp [wkSz], Inv.start _ _ ⟨⟨w.heap.size, 0, none⟩, ⟨w.heap.size + 1, 0, none⟩, a, b⟩, ?_⟩
    · rw [← HX.out]
      have h := Deep.blk_alloc_new (wx.alloc (.map #[] 0)) (.cells #[.pointer (some ⟨w.heap.size, 0, none⟩), .pointer (some ⟨w.heap.size + 1, 0, none⟩)] 56)
      rw [Deep.nblk_alloc, HXS.out] at h
      exact ⟨rfl, Or.inr ⟨_, 1, _, rfl, Nat.le_refl _, h, Nat.le_refl _, by unfold maxLen; omega, rfl, rfl⟩⟩
    · rw [← HX.out]
      have h := PMap.made (emb := emb2) wx (Pair2 wx (Pl wx))
      rw [HXS.out] at h
      exact h.keep (Deep.blk_alloc_lt _ _ _ (by simp [HXS.out]))
    · intro e he
      rw [List.mem_singleton] at he
      subst he
      exact ⟨HLA.out, HLB.out, id⟩
    · rw [← HX.out]
      exact (box_below wx _).trans ((box_below _ _).mono (by simp))
  case round =>
    obtain ⟨wo, rfl⟩ : ∃ wo : World, wo = wr := ⟨_, rfl⟩
    obtain ⟨l, M, rfl, hown, ⟨g, cp, rfl⟩, hmap, hM, hl, hsz, hinv, hb⟩ := hrel
    have HM : Hid (∀ k u, M k = some u → u = .bool true) := hM
    have HP : Hid (PMap emb2 wo (w.heap.size + 2) (Pair2 wx (Pl wx)) M) := hmap
    have HI : Hid (Inv wx (Pl wx) (⟨w.heap.size, 0, none⟩, ⟨w.heap.size + 1, 0, none⟩) M l none) := hinv
    have HL : Hid (∀ e ∈ l, WkOk wx (Pl wx) (a = b) e) := hl
    have HB : Hid (Below wx.heap.size wx wo) := hb
    have HO : Hid (wo.ownsRow (w.heap.size + 3) 56 2 (.slice (some ⟨g, 0, none⟩) l.length cp) l.length (wkCells l)) := hown
    clear hM hmap hinv hl hb hown
    have hln := wkSz_len l
    rcases List.eq_nil_or_concat l with hnil | ⟨l', e, he⟩
    · have hl0 : l.length = 0 := by rw [hnil]; rfl
      have HT : Hid (a = b) := by
        subst hnil
        exact HI.out.done (szT a) _ a b (Nat.le_refl _) (Or.inl rfl) HLA.out HLB.out
      clear hnil
      rw [hl0]
      go_wp2_with fail
      go_ret
      exact ⟨⟨true, rfl, by simpa using HT.out⟩, HBX.out.trans (HB.out.mono (by have := HXS.out; omega))⟩
    · subst he
      rw [List.concat_eq_append] at *
      have hll : (l' ++ [e]).length = l'.length + 1 := by simp
      have HLL : Hid ((l' ++ [e]).length = l'.length + 1) := hll
      rw [hll]
      have hlen : l'.length + 1 ≤ 1099511627777 := by omega
      have HSZ : Hid (wkSz (l' ++ [e]) ≤ 1 + szT a) := hsz
      have hcp : l'.length + 1 ≤ cp ∧ cp ≤ maxLen := by
        obtain ⟨g2, c2, e2, -, -, h1, h2⟩ := own_form HO.out (by rw [hll]; omega)
        cases e2
        exact ⟨by rw [hll] at h1; exact h1, h2⟩
      obtain ⟨hcp, hcm⟩ := hcp
      unfold maxLen at hcm
      clear hln hsz
      obtain ⟨hx, hy, hxy⟩ := HL.out e (by simp)
      have HXY : Hid (a = b → e.s = e.t) := hxy
      clear hxy
      have HEx : Hid (LiesAt wx (Pl wx) e.x e.s) := hx
      have HEy : Hid (LiesAt wx (Pl wx) e.y e.t) := hy
      obtain ⟨xb, xo, x0, x1, x2, hxe, hxp, cx0, cx1, cx2, htx⟩ := hx
      obtain ⟨yb, yo, y0, y1, y2, hye, hyp, cy0, cy1, cy2, hty⟩ := hy
      obtain ⟨rfl, rfl, iox, inx, hkx⟩ := trOn_iff.1 htx
      obtain ⟨rfl, rfl, ioy, iny, hky⟩ := trOn_iff.1 hty
      have HKX : Hid (KidsOn wx (Pl wx) e.s.kids x2) := hkx
      have HKY : Hid (KidsOn wx (Pl wx) e.t.kids y2) := hky
      obtain ⟨adx, capx, rfl, -, hmx, -⟩ := hkx
      obtain ⟨ady, capy, rfl, -, hmy, -⟩ := hky
      unfold maxLen at hmx hmy
      have p0 : wo.cell? ⟨g, l'.length * 2, none⟩ = some (.pointer (some ⟨xb, xo, none⟩)) := by
        rw [← hxe]; exact own_at HO.out _ _ (by rw [wkCells_snoc, List.getElem?_append_right (by rw [wkCells_length]; omega), wkCells_length]; simp)
      have p1 : wo.cell? ⟨g, l'.length * 2 + 1, none⟩ = some (.pointer (some ⟨yb, yo, none⟩)) := by
        rw [← hye]; exact own_at HO.out _ _ (by rw [wkCells_snoc, List.getElem?_append_right (by rw [wkCells_length]; omega), wkCells_length]; simp)
      have q0 := (HB.out.cell (p := ⟨xb, xo, none⟩) hxp.1).trans cx0
      have q1 := (HB.out.cell (p := ⟨xb, xo + 1, none⟩) hxp.1).trans cx1
      have q2 := (HB.out.cell (p := ⟨xb, xo + 2, none⟩) hxp.1).trans cx2
      have r0 := (HB.out.cell (p := ⟨yb, yo, none⟩) hyp.1).trans cy0
      have r1 := (HB.out.cell (p := ⟨yb, yo + 1, none⟩) hyp.1).trans cy1
      have r2 := (HB.out.cell (p := ⟨yb, yo + 2, none⟩) hyp.1).trans cy2
      have HCX : Hid (wx.cell? ⟨xb, xo + 2, none⟩ = some (.slice adx e.s.kids.length capx)) := cx2
      have HCY : Hid (wx.cell? ⟨yb, yo + 2, none⟩ = some (.slice ady e.t.kids.length capy)) := cy2
      have HPX : Hid (xb < wx.heap.size ∧ yb < wx.heap.size) := ⟨hxp.1, hyp.1⟩
      have HXE : Hid (e.x = ⟨xb, xo, none⟩ ∧ e.y = ⟨yb, yo, none⟩) := ⟨hxe, hye⟩
      have hxl : xb < wo.heap.size := Nat.lt_of_lt_of_le hxp.1 HB.out.size
      have hyl : yb < wo.heap.size := Nat.lt_of_lt_of_le hyp.1 HB.out.size
      clear hxe hye cx0 cx1 cx2 cy0 cy1 cy2 htx hty hxp hyp hll
      have HF : ∀ o : Obj, Below w.heap.size w (wo.alloc o) := fun o => HBX.out.trans ((HB.out.trans ((box_below wo o).mono HB.out.size)).mono (by have := HXS.out; omega))
      have HF : Hid (∀ o : Obj, Below w.heap.size w (wo.alloc o)) := HF
      by_cases ho : e.s.op = e.t.op
      · by_cases hn : e.s.num = e.t.num
        · by_cases hkl : e.s.kids.length = e.t.kids.length
          · have t1 : (e.s.op != e.t.op) = false := by simpa using ho
            have t2 : (e.s.num != e.t.num) = false := by simpa using hn
            have t3 : ((e.s.kids.length : Int) != e.t.kids.length) = false := by simp [hkl]
            have HS : Hid (e.s.op = e.t.op ∧ e.s.num = e.t.num ∧ e.s.kids.length = e.t.kids.length) := ⟨ho, hn, hkl⟩
            have hxL : e.s.kids.length ≤ 1099511627776 := by
              have h1 := HSZ.out
              rw [wkSz_snoc, szT_eq, szL_sum] at h1
              omega
            clear ho hn hkl
            go_wp2_with fail
            go_quiet (fail)
            go_wp2_with fail
            go_loopw [6, 72] (fun v i wr => ∃ k : Nat, k ≤ e.s.kids.length ∧ i = .int .i64 k ∧ IRel wx w.heap.size wo.heap.size a b l' e k v wr) (fun _ i _ => e.s.kids.length - (intOf i).toNat)
            case atStart =>
              refine ⟨0, Nat.zero_le _, rfl, l', M, ?_, ⟨_, _, rfl⟩, ?_, ?_, ?_, HM.out, fun d hd => HL.out d (by simp [hd]), by simp [szL], HI.out.pop, KidsSeen.zero _ _ _, ?_⟩
              · have h1 := HO.out
                rw [HLL.out, wkCells_snoc] at h1
                exact own_keep (own_cut h1 (wkCells_length l') (by omega)) (fun k _ hk => Deep.blk_alloc_lt _ _ k hk)
              · intro h
                have h2 := own_form HO.out (by rw [HLL.out]; omega)
                obtain ⟨g2, c2, e2, -, hg2, -⟩ := h2
                cases e2
                simp only [Value.ownBlock, Option.some.injEq] at h
                omega
              · have := Deep.blk_alloc_new wo (.cells #[.pointer (some ⟨xb, xo, none⟩), .pointer (some ⟨yb, yo, none⟩)] 56)
                rw [HXE.out.1, HXE.out.2]
                exact this
              · exact HP.out.keep (Deep.blk_alloc_lt _ _ _ HP.out.lt)
              · exact below_drewN (HB.out.trans ((box_below wo _).mono HB.out.size)) _
            case round =>
              obtain ⟨k, hk, rfl, l2, M2, hown, ⟨g2, cp2, rfl⟩, hnb, hbox, hmap, hM, hl, hsz2, hinv, hks, hb⟩ := hrel
              have HM2 : Hid (∀ k u, M2 k = some u → u = .bool true) := hM
              have HP2 : Hid (PMap emb2 wr (w.heap.size + 2) (Pair2 wx (Pl wx)) M2) := hmap
              have HI2 : Hid (Inv wx (Pl wx) (⟨w.heap.size, 0, none⟩, ⟨w.heap.size + 1, 0, none⟩) M2 l2 (some e.key)) := hinv
              have HL2 : Hid (∀ d ∈ l2, WkOk wx (Pl wx) (a = b) d) := hl
              have HB2 : Hid (Below wx.heap.size wx wr) := hb
              have HO2 : Hid (wr.ownsRow (w.heap.size + 3) 56 2 (.slice (some ⟨g2, 0, none⟩) l2.length cp2) l2.length (wkCells l2)) := hown
              have HNB : Hid ((Value.slice (some ⟨g2, 0, none⟩) l2.length cp2).ownBlock ≠ some wo.heap.size) := hnb
              have HKS : Hid (KidsSeen wx M2 e.key k) := hks
              have HSZ2 : Hid (wkSz l2 ≤ wkSz l' + szL (e.s.kids.take k)) := hsz2
              have HBOX : Hid (wr.heap[wo.heap.size]? = some (.cells #[.pointer (some e.x), .pointer (some e.y)] 56)) := hbox
              have c0 := cell_of_blk hbox 0 _ rfl
              have c1 := cell_of_blk hbox 1 _ rfl
              rw [HXE.out.1] at c0
              rw [HXE.out.2] at c1
              have s2 := (HB2.out.cell (p := ⟨xb, xo + 2, none⟩) HPX.out.1).trans HCX.out
              have u2 := (HB2.out.cell (p := ⟨yb, yo + 2, none⟩) HPX.out.2).trans HCY.out
              have hg2 : Hid (w.heap.size + 3 ≤ g2) := own_block HO2.out rfl
              have hob : wo.heap.size < wr.heap.size := cellsOf_lt' hbox
              have hxl2 : xb < wr.heap.size := Nat.lt_of_lt_of_le HPX.out.1 HB2.out.size
              have hyl2 : yb < wr.heap.size := Nat.lt_of_lt_of_le HPX.out.2 HB2.out.size
              clear hM hmap hinv hl hb hown hnb hks hsz2 hbox hxl hyl
              by_cases hlt : k < e.s.kids.length
              · have hlt' : k < e.t.kids.length := by have := HS.out.2.2; omega
                obtain ⟨_, _, he, -, -, hr⟩ := HKX.out
                cases he
                rcases hr with hnil | ⟨xkb, xko, rfl, hxk, hrx⟩
                · rw [hnil] at hlt; simp at hlt
                obtain ⟨_, _, he, -, -, hr⟩ := HKY.out
                cases he
                rcases hr with hnil | ⟨ykb, yko, rfl, hyk, hry⟩
                · rw [hnil] at hlt'; simp at hlt'
                have HLX : Hid (LiesAt wx (Pl wx) ⟨xkb, xko + k * 3, none⟩ e.s.kids[k]) := RowOn.liesAt hlt hxk hrx
                have HLY : Hid (LiesAt wx (Pl wx) ⟨ykb, yko + k * 3, none⟩ e.t.kids[k]) := RowOn.liesAt hlt' hyk hry
                have HAX : Hid (KidAt wx e.x k ⟨xkb, xko + k * 3, none⟩) := ⟨xb, xo, xkb, xko, _, _, HXE.out.1, HCX.out, rfl⟩
                have HAY : Hid (KidAt wx e.y k ⟨ykb, yko + k * 3, none⟩) := ⟨yb, yo, ykb, yko, _, _, HXE.out.2, HCY.out, rfl⟩
                clear hrx hry hxk hyk
                go_wp2_with fail
                go_region
                go_step
                go_step
                obtain ⟨wk, hwk⟩ : ∃ wk : World, wk = (wr.alloc (.cells #[.pointer (some ⟨xkb, xko + k * 3, none⟩), .pointer (some ⟨ykb, yko + k * 3, none⟩)] 56)).drew := ⟨_, rfl⟩
                rw [← hwk]
                have hX : ∀ j, j < wr.heap.size → wk.heap[j]? = wr.heap[j]? := fun j hj => by rw [hwk]; exact Deep.blk_alloc_lt _ _ j hj
                have hkk : wk.heap[wr.heap.size]? = some (.cells #[.pointer (some ⟨xkb, xko + k * 3, none⟩), .pointer (some ⟨ykb, yko + k * 3, none⟩)] 56) := by rw [hwk]; exact Deep.blk_alloc_new _ _
                have hks : wk.heap.size = wr.heap.size + 1 := by rw [hwk]; exact Deep.nblk_alloc _ _
                have HBk : Hid (Below wx.heap.size wx wk) := by rw [hwk]; exact HB2.out.trans ((box_below wr _).drew.mono HB2.out.size)
                have HOk : Hid (wk.ownsRow (w.heap.size + 3) 56 2 (.slice (some ⟨g2, 0, none⟩) l2.length cp2) l2.length (wkCells l2)) := own_keep HO2.out (fun j _ hj => hX j hj)
                have HPk : Hid (PMap emb2 wk (w.heap.size + 2) (Pair2 wx (Pl wx)) M2) := HP2.out.keep (hX _ HP2.out.lt)
                have HXk : Hid (wk.heap[wo.heap.size]? = some (.cells #[.pointer (some e.x), .pointer (some e.y)] 56)) := (hX _ hob).trans HBOX.out
                have hpx : PlainAt wk ⟨xkb, xko + k * 3, none⟩ := HLX.out.plain HBk.out
                have hpy : PlainAt wk ⟨ykb, yko + k * 3, none⟩ := HLY.out.plain HBk.out
                have hne := neq_exprPtr wk _ _ hpx hpy
                have hK2 : ∀ y, Pair2 wx (Pl wx) y → ok2 wk y := fun y hy => by obtain ⟨s, t, h1, h2⟩ := hy; exact ⟨h1.plain HBk.out, h2.plain HBk.out⟩
                have hlook := (HPk.out.look pairK Try.underlying53 hK2 (zeroBl wk) (⟨xkb, xko + k * 3, none⟩, ⟨ykb, yko + k * 3, none⟩) ⟨hpx, hpy⟩).1
                simp only [emb2] at hlook
                have k0 := cell_of_blk hkk 0 _ rfl
                have k1 := cell_of_blk hkk 1 _ rfl
                have HK2 : Hid (∀ y, Pair2 wx (Pl wx) y → ok2 wk y) := hK2
                have HPP : Hid (PlainAt wk ⟨xkb, xko + k * 3, none⟩ ∧ PlainAt wk ⟨ykb, yko + k * 3, none⟩) := ⟨hpx, hpy⟩
                have HSK : ∀ (hs : (⟨xkb, xko + k * 3, none⟩ : Addr) = ⟨ykb, yko + k * 3, none⟩ ∨ (M2 (⟨xkb, xko + k * 3, none⟩, ⟨ykb, yko + k * 3, none⟩)).isSome = true), IRel wx w.heap.size wo.heap.size a b l' e (k + 1) (.slice (some ⟨g2, 0, none⟩) l2.length cp2) wk := fun hs =>
                  ⟨l2, M2, HOk.out, ⟨_, _, rfl⟩, HNB.out, HXk.out, HPk.out, HM2.out, HL2.out, by have h1 := HSZ2.out; rw [szL_take_succ _ _ hlt]; omega, HI2.out, HKS.out.succ HAX.out HAY.out hs, HBk.out⟩
                have HSK : Hid _ := HSK
                have HWK : Hid (wk.heap.size = wr.heap.size + 1 ∧ ∀ j, j < wr.heap.size → wk.heap[j]? = wr.heap[j]?) := ⟨hks, hX⟩
                have hwks : wr.heap.size < wk.heap.size := by omega
                clear hpx hpy hK2 hwk hX hkk hks c0 c1 s2 u2
                by_cases hzz : (⟨xkb, xko + k * 3, none⟩ : Addr) = ⟨ykb, yko + k * 3, none⟩
                · rw [decide_eq_true hzz] at hne
                  have HR := HSK.out (Or.inl hzz)
                  have HR : Hid _ := HR
                  clear hzz hlook
                  go_wp2_with fail
                  go_roundw
                  case rel => exact ⟨k + 1, by omega, by go_num, HR.out⟩
                  case measure => simp [intOf]; omega
                · rw [decide_eq_false hzz] at hne
                  cases hMk : M2 (⟨xkb, xko + k * 3, none⟩, ⟨ykb, yko + k * 3, none⟩) with
                  | some u =>
                    have HR := HSK.out (Or.inr (by rw [hMk]; rfl))
                    have HR : Hid _ := HR
                    obtain rfl := HM2.out _ _ hMk
                    rw [hMk] at hlook
                    simp only [Option.getD_some] at hlook
                    clear hzz hMk
                    go_wp2_with fail
                    go_roundw
                    case rel => exact ⟨k + 1, by omega, by go_num, HR.out⟩
                    case measure => simp [intOf]; omega
                  | none =>
                    rw [hMk] at hlook
                    simp only [Option.getD_none] at hlook
                    clear hzz hMk
                    have hl2 : l2.length ≤ 1099511627777 := by
                      have h1 := HSZ2.out
                      have h2 := HSZ.out
                      have h3 := szL_take_le e.s.kids k
                      have h4 := wkSz_len l2
                      rw [wkSz_snoc, szT_eq] at h2
                      omega
                    have hgb : w.heap.size + 2 < wk.heap.size := HPk.out.lt
                    go_wp2_with (first
                      | (at_mapUpdate; refine wpList_store_p _ rfl _ _ _ 53 rfl 56 4 pairK Try.underlying53 (w.heap.size + 2) _ M2 rfl HPk.out HK2.out (⟨xkb, xko + k * 3, none⟩, ⟨ykb, yko + k * 3, none⟩) rfl HPP.out ⟨_, _, HLX.out, HLY.out⟩ (.bool true) rfl ?_; intro o' hp; obtain ⟨w1, hw1⟩ : ∃ w1, w1 = ({ wk with heap := wk.heap.setIfInBounds (w.heap.size + 2) o' } : World) := ⟨_, rfl⟩; rw [← hw1] at hp ⊢; have hX1 : ∀ j, j ≠ w.heap.size + 2 → w1.heap[j]? = wk.heap[j]? := (by intro j hj; rw [hw1]; exact set_other_block wk _ o' hj); have hz1 : w1.heap.size = wk.heap.size := (by rw [hw1]; exact set_size wk _ o'); have HP1 : Hid (PMap emb2 w1 (w.heap.size + 2) (Pair2 wx (Pl wx)) (pput M2 (⟨xkb, xko + k * 3, none⟩, ⟨ykb, yko + k * 3, none⟩) (.bool true))) := hp; have HB1 : Hid (Below wx.heap.size wx w1) := (by rw [hw1]; exact HBk.out.trans (set_below wk _ o' (by have := HXS.out; omega))); have k0' := (World.cell?_of_block (a := ⟨wr.heap.size, 0, none⟩) (hX1 _ (by have := HP2.out.lt; show wr.heap.size ≠ _; omega))).trans k0; have k1' := (World.cell?_of_block (a := ⟨wr.heap.size, 1, none⟩) (hX1 _ (by have := HP2.out.lt; show wr.heap.size ≠ _; omega))).trans k1; have HO1 : Hid (w1.ownsRow (w.heap.size + 3) 56 2 (.slice (some ⟨g2, 0, none⟩) l2.length cp2) l2.length (wkCells l2)) := own_keep HOk.out (fun j hj _ => hX1 j (by omega)); have HX1 : Hid (w1.heap[wo.heap.size]? = some (.cells #[.pointer (some e.x), .pointer (some e.y)] 56)) := (hX1 _ (by have := HP.out.lt; omega)).trans HXk.out; have HZ1 : Hid (w1.heap.size = wk.heap.size) := hz1; have hgb1 : w.heap.size + 2 < w1.heap.size := (by omega); clear hX1 hw1 hp k0 k1 hz1 hgb hlook hne)
                      | (at_builtin; refine wpList_append_where _ rfl _ _ 57 rfl (w.heap.size + 3) 56 iE zE 2 16 Try.underlying57 HE.out.1 HE.out.2.1 HE.out.2.2.1 HE.out.2.2.2.1 HE.out.2.2.2.2 (by decide) _ _ _ rfl (own_keep HO1.out (fun j _ hj => Deep.blk_alloc_lt _ _ j hj)) ⟨w1.heap.size, 0, none⟩ 1 1 [.pointer (some ⟨xkb, xko + k * 3, none⟩), .pointer (some ⟨ykb, yko + k * 3, none⟩)] rfl rfl (fun j u hu => box2_cell w1 _ _ j u (by simpa using hu)) (by simp [Value.oneCell']) (by unfold maxLen; omega) (by omega) (by rw [Deep.nblk_alloc]; omega) (by omega) ?_; intro v' w3 hown' hgrow hwh; have HW3 : Hid (IRel wx w.heap.size wo.heap.size a b l' e (k + 1) v' w3) := iRel_push HB1.out HX1.out HP1.out HM2.out HL2.out HSZ2.out HI2.out HKS.out HAX.out HAY.out HLX.out HLY.out HXY.out hlt HNB.out hown' hgrow hwh (by have := HZ1.out; have := HWK.out.1; omega) (by omega) HXS.out hg2.out; obtain ⟨g3, c3, rfl, -⟩ := own_form hown' (by omega); clear hown' hgrow hwh k0' k1'))
                    go_roundw
                    case rel => exact ⟨k + 1, by omega, by go_num, HW3.out⟩
                    case measure => simp [intOf]; omega
              · have hke : k = e.s.kids.length := by omega
                have HF2 : Hid (SRel wx w.heap.size a b (wkSz l2) (.slice (some ⟨g2, 0, none⟩) l2.length cp2) wr ∧ wkSz l2 < wkSz (l' ++ [e])) := by
                  have h1 := HSZ2.out
                  have h2 := HSZ.out
                  have h3 := HKS.out
                  rw [hke] at h1 h3
                  rw [List.take_length] at h1
                  rw [wkSz_snoc, szT_eq] at h2
                  refine ⟨⟨l2, M2, rfl, HO2.out, ⟨_, _, rfl⟩, HP2.out, HM2.out, HL2.out, by omega, HI2.out.close (Done.of (HL.out e (by simp)) HS.out.1 HS.out.2.1 HS.out.2.2 h3), HB2.out⟩, ?_⟩
                  rw [wkSz_snoc, szT_eq]
                  omega
                clear hke
                go_wp2_with fail
                go_roundg (wkSz l2)
                case rel => exact HF2.out.1
                case measure => exact HF2.out.2
          · have t1 : (e.s.op != e.t.op) = false := by simpa using ho
            have t2 : (e.s.num != e.t.num) = false := by simpa using hn
            have t3 : ((e.s.kids.length : Int) != e.t.kids.length) = true := by simp; omega
            have HN : Hid (¬ a = b) := fun h => hkl (by rw [HXY.out h])
            clear ho hn hkl
            go_wp2_with fail
            go_quiet (fail)
            go_wp2_with fail
            go_ret
            exact ⟨⟨false, rfl, by simpa using HN.out⟩, below_drewN (HF.out _) _⟩
        · have t1 : (e.s.op != e.t.op) = false := by simpa using ho
          have t2 : (e.s.num != e.t.num) = true := by simpa using hn
          have HN : Hid (¬ a = b) := fun h => hn (by rw [HXY.out h])
          clear ho hn
          go_wp2_with fail
          go_quiet (fail)
          go_wp2_with fail
          go_ret
          exact ⟨⟨false, rfl, by simpa using HN.out⟩, below_drewN (HF.out _) _⟩
      · have t1 : (e.s.op != e.t.op) = true := by simpa using ho
        have HN : Hid (¬ a = b) := fun h => ho (by rw [HXY.out h])
        clear ho
        go_wp2_with fail
        go_quiet (fail)
        go_wp2_with fail
        go_ret
        exact ⟨⟨false, rfl, by simpa using HN.out⟩, below_drewN (HF.out _) _⟩
end Go.Proofs.Ytekdipmioogohaa
/-
  THE WALK OF FnCodeTwo.
-/
namespace Go.Proofs.Ytekdipmioogohaa.lawCodeTwo
open Go.ChangeShapes Go.WideShapes Go.ChangeAt Go.RowKit
set_option linter.unusedVariables false
set_option linter.unusedSimpArgs false

theorem carry {w w' : World} (hb : Below w.heap.size w w') {a : Addr} {v : Value} (h : w.cell? a = some v) : w'.cell? a = some v := (hb.cell (cell_lt h)).trans h
theorem unwanted {o : Oper} {y : Nat → Option Bool} (j : Nat) (b : Bool) (hg : o.guard = some (j, b)) (hy : y j = some (!b) ∨ y j = none) : Region.wanted o y = false := by
  unfold Region.wanted
  rw [hg]
  rcases hy with hy | hy
  · simp only [hy]; cases b <;> rfl
  · simp only [hy]; rfl
/-- what a decompilation says, the tree aside -/
def DecAny (b : Bool) (w : World) (e : Ending) (w' : World) : Prop :=
  ∃ (x y : Int) (ad : Option Addr) (n cap : Nat), e = .returned (.tuple #[.agg #[.int .i64 x, .int .i64 y, .slice ad n cap], .bool b]) ∧ Below w.heap.size w w'
theorem implDec_any (cs : List Ins) {r : Tr × Bool} (h : decO cs 4 6 = r) (hl : cs.length ≤ 1048576) (hw : ∀ c ∈ cs, I64 c.op ∧ I64 c.num) (w : World) (c : Value) (hk : InsIn w cs c) : Calls Try.prog 12 #[c] w (DecAny r.2 w) := by
  have hh := implDec_calls cs c w hk hl hw
  rw [h] at hh
  refine hh.mono ?_
  rintro e w1 ⟨v, rfl, hf, -, -, hb⟩
  obtain ⟨ad, cap, rfl, -, -, -⟩ := hf.on
  exact ⟨_, _, _, _, _, rfl, hb⟩
theorem specDec_any (cs : List Ins) {r : Tr × Bool} (h : decO cs 4 6 = r) (hl : cs.length ≤ 1048576) (hw : ∀ c ∈ cs, I64 c.op ∧ I64 c.num) (w : World) (c : Value) (hk : InsIn w cs c) : Calls Try.prog 16 #[c] w (DecAny r.2 w) := by
  have hh := specDec_calls cs c w hk hl hw
  rw [h] at hh
  refine hh.mono ?_
  rintro e w1 ⟨v, rfl, hf, hb⟩
  obtain ⟨ad, cap, rfl, -, -, -⟩ := hf
  exact ⟨_, _, _, _, _, rfl, hb⟩
/-- what the decompilation of a pair says: two like trees, side by side in plain blocks -/
def PairGot (t : Tr) (w : World) (e : Ending) (w' : World) : Prop :=
  ∃ (kb ko cap : Nat) (c d : Value), e = .returned (.tuple #[.agg #[.int .i64 5, .int .i64 0, .slice (some ⟨kb, ko, none⟩) 2 cap], .bool true]) ∧
    w'.cell? ⟨kb, ko, none⟩ = some (.int .i64 t.op) ∧ w'.cell? ⟨kb, ko + 1, none⟩ = some (.int .i64 t.num) ∧ w'.cell? ⟨kb, ko + 2, none⟩ = some c ∧
    w'.cell? ⟨kb, ko + 3, none⟩ = some (.int .i64 t.op) ∧ w'.cell? ⟨kb, ko + 4, none⟩ = some (.int .i64 t.num) ∧ w'.cell? ⟨kb, ko + 5, none⟩ = some d ∧
    InP w' t.kids c ∧ InP w' t.kids d ∧ (I64 t.op ∧ I64 t.num) ∧ kb < w'.heap.size ∧ Below w.heap.size w w'
theorem implDec_pair (cs : List Ins) {t : Tr} (h : decO cs 4 6 = (.node 5 0 [t, t], true)) (hl : cs.length ≤ 1048576) (hw : ∀ c ∈ cs, I64 c.op ∧ I64 c.num) (w : World) (c : Value) (hk : InsIn w cs c) : Calls Try.prog 12 #[c] w (PairGot t w) := by
  have hh := implDec_calls cs c w hk hl hw
  rw [h] at hh
  refine hh.mono ?_
  rintro e w1 ⟨v, rfl, hf, -, -, hb⟩
  obtain ⟨ad, cap, rfl, -, -, hr⟩ := hf.inP
  rcases hr with hr | ⟨kb, ko, rfl, hp, hr⟩
  · cases hr
  simp only [RowOn, Tr.kids] at hr
  obtain ⟨⟨a, b, c, ha, hb1, hc, ht⟩, ⟨a', b', c', ha', hb', hc', ht'⟩, -⟩ := hr
  obtain ⟨rfl, rfl, i1, i2, hk1⟩ := trOn_iff.1 ht
  obtain ⟨rfl, rfl, -, -, hk2⟩ := trOn_iff.1 ht'
  exact ⟨kb, ko, cap, c, c', rfl, ha, hb1, hc, ha', hb', hc', hk1, hk2, ⟨i1, i2⟩, hp.1, hb⟩

set_option maxRecDepth 100000 in
set_option maxHeartbeats 3200000 in
theorem walk (len : Nat) (v : Value) (w : World) (h : BytesOn w (Lt w.heap.size) len v) : Calls Try.prog 6 #[v] w fun e w' => e = .returned (.bool true) ∧ Below w.heap.size w w' := by
  have H := mkHid h
  obtain ⟨ad, cap, rfl, hl, hm, -⟩ := h
  unfold maxLen at hm
  go_enter Try.func6, Try.ntmps6
  by_cases hlen : (1048576 : Int) < (len : Int)
  · go_wp2_with fail
    go_ret
    exact ⟨rfl, Below.refl _ _⟩
  clear hl hm
  go_wp2_with fail
  refine (drawDec_calls len _ w H.out).mono ?_
  rintro e w1 ⟨cs, v1, rfl, hi, h64, hcl, hb1⟩
  have HI := mkHid hi
  have H64 := mkHid h64
  have HB1 := mkHid hb1
  obtain ⟨ad1, cap1, rfl, hlc, hmc, -⟩ := hi
  unfold maxLen at hmc
  clear h64 hb1
  cases hb : (decO cs 4 6).2 with
  | false =>
    have hd : decO cs 4 6 = (.node 0 0 [], false) := decO_false (by rw [← decO_valid]; exact hb)
    have HQ1 : Hid (∀ W c, InsIn W cs c → Calls Try.prog 12 #[c] W (DecAny false W)) := implDec_any cs hd (by omega) H64.out
    have HQ2 : Hid (∀ W c, InsIn W cs c → Calls Try.prog 16 #[c] W (DecAny false W)) := specDec_any cs hd (by omega) H64.out
    clear hb hd
    go_wp2_with fail
    refine (HQ1.out w1 _ HI.out).mono ?_
    rintro e w2 ⟨x2, y2, a2, n2, c2, rfl, hb2⟩
    obtain ⟨u2, hu2⟩ : ∃ u, u = w2.alloc (.cells #[.int .i64 x2, .int .i64 y2, .slice a2 n2 c2] 32) := ⟨_, rfl⟩
    have HX2 : Hid (Below w1.heap.size w1 u2) := by rw [hu2]; exact hb2.trans ((box_below _ _).mono hb2.size)
    have HU2 : Hid (w2.alloc (.cells #[.int .i64 x2, .int .i64 y2, .slice a2 n2 c2] 32) = u2) := hu2.symm
    clear hb2 hu2
    go_wp2_with fail
    rw [HU2.out]
    refine (HQ2.out u2 _ (HI.out.next HX2.out)).mono ?_
    rintro e w3 ⟨x3, y3, a3, n3, c3, rfl, hb3⟩
    have HX3 : Hid (Below w1.heap.size w1 (w3.alloc (.cells #[.int .i64 x3, .int .i64 y3, .slice a3 n3 c3] 32))) := HX2.out.trans ((hb3.trans ((box_below _ _).mono hb3.size)).mono HX2.out.size)
    have HLO : Hid (w3.heap.size + 1 ≤ (w3.alloc (.cells #[.int .i64 x3, .int .i64 y3, .slice a3 n3 c3] 32)).heap.size) := by rw [Hid, Deep.nblk_alloc]; exact Nat.le_refl _
    clear hb3
    go_wp2_with fail
    go_ret
    exact ⟨rfl, HB1.out.trans (HX3.out.mono HB1.out.size)⟩
  | true =>
    obtain ⟨t, ho, hd⟩ := decO_one hb
    have hl1 := oneC_pos ho
    have HQ1 : Hid (∀ W c, InsIn W cs c → Calls Try.prog 12 #[c] W (DecAny true W)) := implDec_any cs hd (by omega) H64.out
    have HQ2 : Hid (∀ W c, InsIn W cs c → Calls Try.prog 16 #[c] W (DecAny true W)) := specDec_any cs hd (by omega) H64.out
    have HSZ : Hid (szT t ≤ 1099511627776) := by
      have h := decO_sz cs 4 6
      rw [hd] at h
      rw [Hid, szT_eq]
      simp only at h
      omega
    obtain ⟨bl, off, had, -, -, -⟩ := InsOn.at HI.out 0 (by omega)
    subst had
    obtain ⟨bs, hbs⟩ : ∃ bs, bs = cs ++ cs := ⟨_, rfl⟩
    obtain ⟨ps, hps⟩ : ∃ ps, ps = bs ++ [(⟨5, 0⟩ : Ins)] := ⟨_, rfl⟩
    have hbl : bs.length = cs.length + cs.length := by rw [hbs, List.length_append]
    have hpl : ps.length = bs.length + 1 := by rw [hps, List.length_append]; rfl
    have hbw : ∀ c ∈ bs, I64 c.op ∧ I64 c.num := fun c hc => by
      rw [hbs, List.mem_append] at hc
      rcases hc with hc | hc
      · exact H64.out c hc
      · exact H64.out c hc
    have hpw : ∀ c ∈ ps, I64 c.op ∧ I64 c.num := fun c hc => by
      rw [hps, List.mem_append, List.mem_singleton] at hc
      rcases hc with hc | rfl
      · exact hbw c hc
      · exact ⟨by unfold I64; simp, by unfold I64; simp⟩
    have HT : Hid (∀ W c, InsIn W bs c → Calls Try.prog 12 #[c] W (DecAny false W)) := implDec_any bs (r := (.node 0 0 [], false)) (by rw [hbs]; exact two_false ho) (by omega) hbw
    have hpd := pair_dec ho
    rw [← hbs, ← hps] at hpd
    have HP : Hid ((∀ W c, InsIn W ps c → Calls Try.prog 12 #[c] W (DecAny false W)) ∨ (∀ W c, InsIn W ps c → Calls Try.prog 12 #[c] W (PairGot t W))) :=
      hpd.imp (fun h => implDec_any ps h (by omega) hpw) (fun h => implDec_pair ps h (by omega) hpw)
    have HBS := mkHid hbs
    have HPS := mkHid hps
    have hb1 : 1 ≤ bs.length := by omega
    have HBL := mkHid hbl
    clear hb hd ho hbs hps hbw hpw hpd hpl hbl
    by_cases h30 : (30 : Int) < (cs.length : Int)
    · go_wp2_with fail
      refine (HQ1.out w1 _ HI.out).mono ?_
      rintro e w2 ⟨x2, y2, a2, n2, c2, rfl, hb2⟩
      obtain ⟨u2, hu2⟩ : ∃ u, u = w2.alloc (.cells #[.int .i64 x2, .int .i64 y2, .slice a2 n2 c2] 32) := ⟨_, rfl⟩
      have HX2 : Hid (Below w1.heap.size w1 u2) := by rw [hu2]; exact hb2.trans ((box_below _ _).mono hb2.size)
      have HU2 : Hid (w2.alloc (.cells #[.int .i64 x2, .int .i64 y2, .slice a2 n2 c2] 32) = u2) := hu2.symm
      clear hb2 hu2
      go_wp2_with fail
      rw [HU2.out]
      refine (HQ2.out u2 _ (HI.out.next HX2.out)).mono ?_
      rintro e w3 ⟨x3, y3, a3, n3, c3, rfl, hb3⟩
      have HX3 : Hid (Below w1.heap.size w1 (w3.alloc (.cells #[.int .i64 x3, .int .i64 y3, .slice a3 n3 c3] 32))) := HX2.out.trans ((hb3.trans ((box_below _ _).mono hb3.size)).mono HX2.out.size)
      have HLO : Hid (w3.heap.size + 1 ≤ (w3.alloc (.cells #[.int .i64 x3, .int .i64 y3, .slice a3 n3 c3] 32)).heap.size) := by rw [Hid, Deep.nblk_alloc]; exact Nat.le_refl _
      clear hb3

      go_wp2_with fail
      go_ret
      exact ⟨rfl, HB1.out.trans (HX3.out.mono HB1.out.size)⟩
    · have h60 : bs.length ≤ 60 := by have := HBL.out; omega
      go_wp2_with fail
      refine (HQ1.out w1 _ HI.out).mono ?_
      rintro e w2 ⟨x2, y2, a2, n2, c2, rfl, hb2⟩
      obtain ⟨u2, hu2⟩ : ∃ u, u = w2.alloc (.cells #[.int .i64 x2, .int .i64 y2, .slice a2 n2 c2] 32) := ⟨_, rfl⟩
      have HX2 : Hid (Below w1.heap.size w1 u2) := by rw [hu2]; exact hb2.trans ((box_below _ _).mono hb2.size)
      have HU2 : Hid (w2.alloc (.cells #[.int .i64 x2, .int .i64 y2, .slice a2 n2 c2] 32) = u2) := hu2.symm
      clear hb2 hu2
      go_wp2_with fail
      rw [HU2.out]
      refine (HQ2.out u2 _ (HI.out.next HX2.out)).mono ?_
      rintro e w3 ⟨x3, y3, a3, n3, c3, rfl, hb3⟩
      have HX3 : Hid (Below w1.heap.size w1 (w3.alloc (.cells #[.int .i64 x3, .int .i64 y3, .slice a3 n3 c3] 32))) := HX2.out.trans ((hb3.trans ((box_below _ _).mono hb3.size)).mono HX2.out.size)
      have HLO : Hid (w3.heap.size + 1 ≤ (w3.alloc (.cells #[.int .i64 x3, .int .i64 y3, .slice a3 n3 c3] 32)).heap.size) := by rw [Hid, Deep.nblk_alloc]; exact Nat.le_refl _
      clear hb3

      obtain ⟨iE, zE, hII⟩ := infoK2
      have HII := mkHid hII
      have HI3 : Hid (InsIn (w3.alloc (.cells #[.int .i64 x3, .int .i64 y3, .slice a3 n3 c3] 32)) cs (.slice (some ⟨bl, off, none⟩) cs.length cap1)) := HI.out.next HX3.out
      have HE0 : Hid (StkP ((w3.alloc (.cells #[.int .i64 x3, .int .i64 y3, .slice a3 n3 c3] 32)).alloc (.cells #[] 37)) (w3.heap.size + 1) [] (.slice (some ⟨w3.heap.size + 1, 0, none⟩) 0 0)) := by have h := StkP.nil (w3.alloc (.cells #[.int .i64 x3, .int .i64 y3, .slice a3 n3 c3] 32)) (w3.heap.size + 1) HLO.out; rw [Deep.nblk_alloc] at h; exact h
      have HBA : Hid (Below (w3.heap.size + 1) (w3.alloc (.cells #[.int .i64 x3, .int .i64 y3, .slice a3 n3 c3] 32)) ((w3.alloc (.cells #[.int .i64 x3, .int .i64 y3, .slice a3 n3 c3] 32)).alloc (.cells #[] 37))) := (box_below _ _).mono HLO.out
      have HLE : Hid (w1.heap.size ≤ w3.heap.size + 1) := by have h := HX3.out.size; rw [Deep.nblk_alloc] at h; exact h
      clear hII
      go_wp2_with (first | (at_builtin; have HS4x := HS4; go_must (refine wpList_append_own w4 rfl _ _ 23 rfl (w3.heap.size + 1) 37 iE zE 2 16 Try.underlying23 HII.out.1 HII.out.2.1 HII.out.2.2.1 HII.out.2.2.2.1 HII.out.2.2.2.2 (by decide) (.slice (some ⟨g4, 0, none⟩) cs.length cap4) cs.length (insV cs) rfl HS4.out ⟨bl, off, none⟩ cs.length cap1 (insV cs) rfl (insV_length cs) (ins_news (HI3.out.next (by rw [Deep.nblk_alloc]; exact HB4.out))) (insV_one cs) (by unfold maxLen; omega) (by omega) (by have := HB4.out.size; have := HLO.out; omega) ?_); go_must (intro v5 w5 hown hgrow hwh); clear HS4x; go_must (have HS5 : Hid (StkP w5 (w3.heap.size + 1) bs v5) := by unfold StkP Hid; rw [HBS.out, insV_append, List.length_append]; exact hown); go_must (have HB5 : Hid (Below (w3.heap.size + 1) (w3.alloc (.cells #[.int .i64 x3, .int .i64 y3, .slice a3 n3 c3] 32)) w5) := stkP_grown HS4.out HB4.out HLO.out hgrow); go_must (obtain ⟨g5, cap5, rfl⟩ : ∃ g cap, v5 = .slice (some ⟨g, 0, none⟩) bs.length cap := stkP_some HS5.out (by omega)); clear hown hgrow hwh) | (at_builtin; go_must (refine wpList_append_own _ rfl _ _ 23 rfl (w3.heap.size + 1) 37 iE zE 2 16 Try.underlying23 HII.out.1 HII.out.2.1 HII.out.2.2.1 HII.out.2.2.2.1 HII.out.2.2.2.2 (by decide) (.slice (some ⟨w3.heap.size + 1, 0, none⟩) 0 0) 0 [] rfl HE0.out ⟨bl, off, none⟩ cs.length cap1 (insV cs) rfl (insV_length cs) (ins_news (HI3.out.next (box_below _ _))) (insV_one cs) (by unfold maxLen; omega) (by omega) (by rw [Deep.nblk_alloc, Deep.nblk_alloc]; omega) ?_); go_must (intro v4 w4 hown hgrow hwh); go_must (have HS4 : Hid (StkP w4 (w3.heap.size + 1) cs v4) := by have h := hown; rw [Nat.zero_add, List.nil_append] at h; exact h); go_must (have HB4 : Hid (Below (w3.heap.size + 1) (w3.alloc (.cells #[.int .i64 x3, .int .i64 y3, .slice a3 n3 c3] 32)) w4) := stkP_grown HE0.out HBA.out HLO.out hgrow); go_must (obtain ⟨g4, cap4, rfl⟩ : ∃ g cap, v4 = .slice (some ⟨g, 0, none⟩) cs.length cap := stkP_some HS4.out hl1); clear hown hgrow hwh))
      refine (HT.out w5 _ HS5.out.row.inn).mono ?_
      rintro e w6 ⟨x6, y6, a6, n6, c6, rfl, hb6⟩
      have HS6 : Hid (StkP (w6.alloc (.cells #[.int .i64 x6, .int .i64 y6, .slice a6 n6 c6] 32)) (w3.heap.size + 1) bs (.slice (some ⟨g5, 0, none⟩) bs.length cap5)) := StkP.alloc (HS5.out.keep fun k hk => hb6.block k (HS5.out.lt hk).2) _
      have HB6 : Hid (Below (w3.heap.size + 1) (w3.alloc (.cells #[.int .i64 x3, .int .i64 y3, .slice a3 n3 c3] 32)) (w6.alloc (.cells #[.int .i64 x6, .int .i64 y6, .slice a6 n6 c6] 32))) := HB5.out.trans ((hb6.trans ((box_below _ _).mono hb6.size)).mono (Nat.le_trans HLO.out HB5.out.size))
      clear hb6
      go_wp2_with (at_builtin; go_must (refine wpList_append_own _ rfl _ _ 23 rfl (w3.heap.size + 1) 37 iE zE 2 16 Try.underlying23 HII.out.1 HII.out.2.1 HII.out.2.2.1 HII.out.2.2.2.1 HII.out.2.2.2.2 (by decide) (.slice (some ⟨g5, 0, none⟩) bs.length cap5) bs.length (insV bs) rfl (HS6.out.alloc _) ⟨w6.heap.size + 1, 0, none⟩ 1 1 [.int .i64 5, .int .i64 0] rfl rfl (by have h := news2 (w6.alloc (.cells #[.int .i64 x6, .int .i64 y6, .slice a6 n6 c6] 32)) (.int .i64 5) (.int .i64 0) 37; rw [Deep.nblk_alloc] at h; exact h) (by simp [Value.oneCell']) (by unfold maxLen; omega) (by omega) (by rw [Deep.nblk_alloc]; have := HB6.out.size; have := HLO.out; omega) ?_); go_must (intro v8 w8 hown hgrow hwh); go_must (have HS8 : Hid (StkP w8 (w3.heap.size + 1) ps v8) := by unfold StkP Hid; rw [HPS.out, insV_append, List.length_append]; exact hown); go_must (have HB8 : Hid (Below (w3.heap.size + 1) (w3.alloc (.cells #[.int .i64 x3, .int .i64 y3, .slice a3 n3 c3] 32)) w8) := stkP_grown (HS6.out.alloc _) (HB6.out.trans ((box_below _ _).mono (Nat.le_trans HLO.out HB6.out.size))) HLO.out hgrow); go_must (obtain ⟨g8, cap8, rfl⟩ : ∃ g cap, v8 = .slice (some ⟨g, 0, none⟩) ps.length cap := stkP_some HS8.out (by rw [HPS.out, List.length_append]; simp)); clear hown hgrow hwh)
      rcases HP.out with hp | hp
      · have HP1 := mkHid hp
        clear hp
        refine (HP1.out w8 _ HS8.out.row.inn).mono ?_
        rintro e w9 ⟨x9, y9, a9, n9, c9, rfl, hb9⟩
        have HB9 : Hid (Below (w3.heap.size + 1) (w3.alloc (.cells #[.int .i64 x3, .int .i64 y3, .slice a3 n3 c3] 32)) w9) := HB8.out.trans (hb9.mono (Nat.le_trans HLO.out HB8.out.size))
        clear hb9
        obtain ⟨w10, hw10⟩ : ∃ W, W = w9.alloc (.cells #[.int .i64 x9, .int .i64 y9, .slice a9 n9 c9] 32) := ⟨_, rfl⟩
        have HB10 : Hid (Below (w3.heap.size + 1) (w3.alloc (.cells #[.int .i64 x3, .int .i64 y3, .slice a3 n3 c3] 32)) w10) := by rw [hw10]; exact HB9.out.trans ((box_below _ _).mono (Nat.le_trans HLO.out HB9.out.size))
        have HW10 : Hid (w9.alloc (.cells #[.int .i64 x9, .int .i64 y9, .slice a9 n9 c9] 32) = w10) := hw10.symm
        clear hw10
        go_wp2_with fail
        rw [HW10.out]
        refine wp_region_any (by kernel_rfl) ?_
        refine wpAny_take (i := 0) (oi := { dst := some 63, op := Op.move (Operand.tmp 10), type := 4, pos := "laws.go:1611", after := #[], guard := none }) (v := ?_) rfl (by kernel_rfl) (by kernel_rfl) (by kernel_rfl) (fun _ _ _ h => h) (Or.inl ⟨by rfl, by intro w; go_simp <;> with_reducible rfl⟩) ?_
        try simp only [Act.put, List.setIfInBounds_toArray, List.set_cons_zero, List.set_cons_succ]
        refine wpAny_take (i := 1) (oi := { dst := some 64, op := Op.unOp UnOp.not 4 (Operand.tmp 63), type := 4, pos := "laws.go:1611", after := #[{ on := 0, ground := Ground.data }], guard := none }) (v := ?_) rfl (by kernel_rfl) (by kernel_rfl) (by kernel_rfl) (fun _ _ _ h => h) (Or.inl ⟨by rfl, by intro w; go_simp <;> with_reducible rfl⟩) ?_
        try simp only [Act.put, List.setIfInBounds_toArray, List.set_cons_zero, List.set_cons_succ]
        refine wpAny_take (i := 2) (oi := { dst := some 65, op := Op.move (Operand.tmp 64), type := 4, pos := "laws.go:1611", after := #[{ on := 1, ground := Ground.data }], guard := none }) (v := ?_) rfl (by kernel_rfl) (by kernel_rfl) (by kernel_rfl) (fun _ _ _ h => h) (Or.inl ⟨by rfl, by intro w; go_simp <;> with_reducible rfl⟩) ?_
        try simp only [Act.put, List.setIfInBounds_toArray, List.set_cons_zero, List.set_cons_succ]
        refine wpAny_take (i := 3) (oi := { dst := some 66, op := Op.move (Operand.tmp 13), type := 4, pos := "laws.go:1611", after := #[{ on := 2, ground := Ground.guard }], guard := some (2, true) }) (v := ?_) rfl (by kernel_rfl) (by kernel_rfl) (by kernel_rfl) (fun _ _ _ h => h) (Or.inl ⟨by rfl, by intro w; go_simp <;> with_reducible rfl⟩) ?_
        try simp only [Act.put, List.setIfInBounds_toArray, List.set_cons_zero, List.set_cons_succ]
        refine wpAny_take (i := 4) (oi := { dst := some 67, op := Op.unOp UnOp.not 4 (Operand.tmp 66), type := 4, pos := "laws.go:1611", after := #[{ on := 3, ground := Ground.data }, { on := 2, ground := Ground.guard }], guard := some (2, true) }) (v := ?_) rfl (by kernel_rfl) (by kernel_rfl) (by kernel_rfl) (fun _ _ _ h => h) (Or.inl ⟨by rfl, by intro w; go_simp <;> with_reducible rfl⟩) ?_
        try simp only [Act.put, List.setIfInBounds_toArray, List.set_cons_zero, List.set_cons_succ]
        refine wpAny_take (i := 5) (oi := { dst := some 68, op := Op.move (Operand.tmp 67), type := 4, pos := "laws.go:1611", after := #[{ on := 4, ground := Ground.data }, { on := 2, ground := Ground.chain }, { on := 2, ground := Ground.guard }], guard := some (2, true) }) (v := ?_) rfl (by kernel_rfl) (by kernel_rfl) (by kernel_rfl) (fun _ _ _ h => h) (Or.inl ⟨by rfl, by intro w; go_simp <;> with_reducible rfl⟩) ?_
        try simp only [Act.put, List.setIfInBounds_toArray, List.set_cons_zero, List.set_cons_succ]
        refine wpAny_take (i := 6) (oi := { dst := some 69, op := Op.fieldAddr 32 (Operand.tmp 12) 0, type := 0, pos := "laws.go:1611", after := #[{ on := 5, ground := Ground.guard }], guard := some (5, false) }) (v := undef) rfl (by kernel_rfl) (by kernel_rfl) (by kernel_rfl) (fun _ _ _ h => h) (Or.inr ⟨unwanted 5 false rfl (by first | exact Or.inl rfl | exact Or.inr rfl), rfl⟩) ?_
        try simp only [Act.put, List.setIfInBounds_toArray, List.set_cons_zero, List.set_cons_succ]
        refine wpAny_take (i := 7) (oi := { dst := some 70, op := Op.load 3 (Operand.tmp 69), type := 3, pos := "laws.go:1611", after := #[{ on := 6, ground := Ground.data }, { on := 5, ground := Ground.guard }], guard := some (5, false) }) (v := undef) rfl (by kernel_rfl) (by kernel_rfl) (by kernel_rfl) (fun _ _ _ h => h) (Or.inr ⟨unwanted 5 false rfl (by first | exact Or.inl rfl | exact Or.inr rfl), rfl⟩) ?_
        try simp only [Act.put, List.setIfInBounds_toArray, List.set_cons_zero, List.set_cons_succ]
        refine wpAny_take (i := 8) (oi := { dst := some 71, op := Op.binOp BinOp.eql 3 (Operand.tmp 70) (Operand.const (Value.int IntKind.i64 5)) 3, type := 4, pos := "laws.go:1611", after := #[{ on := 7, ground := Ground.data }, { on := 5, ground := Ground.guard }], guard := some (5, false) }) (v := undef) rfl (by kernel_rfl) (by kernel_rfl) (by kernel_rfl) (fun _ _ _ h => h) (Or.inr ⟨unwanted 5 false rfl (by first | exact Or.inl rfl | exact Or.inr rfl), rfl⟩) ?_
        try simp only [Act.put, List.setIfInBounds_toArray, List.set_cons_zero, List.set_cons_succ]
        refine wpAny_take (i := 9) (oi := { dst := some 72, op := Op.move (Operand.tmp 71), type := 4, pos := "laws.go:1611", after := #[{ on := 8, ground := Ground.data }, { on := 5, ground := Ground.chain }, { on := 5, ground := Ground.guard }], guard := some (5, false) }) (v := undef) rfl (by kernel_rfl) (by kernel_rfl) (by kernel_rfl) (fun _ _ _ h => h) (Or.inr ⟨unwanted 5 false rfl (by first | exact Or.inl rfl | exact Or.inr rfl), rfl⟩) ?_
        try simp only [Act.put, List.setIfInBounds_toArray, List.set_cons_zero, List.set_cons_succ]
        refine wpAny_take (i := 10) (oi := { dst := some 73, op := Op.fieldAddr 32 (Operand.tmp 12) 2, type := 0, pos := "laws.go:1611", after := #[{ on := 9, ground := Ground.guard }], guard := some (9, true) }) (v := undef) rfl (by kernel_rfl) (by kernel_rfl) (by kernel_rfl) (fun _ _ _ h => h) (Or.inr ⟨unwanted 9 true rfl (by first | exact Or.inl rfl | exact Or.inr rfl), rfl⟩) ?_
        try simp only [Act.put, List.setIfInBounds_toArray, List.set_cons_zero, List.set_cons_succ]
        refine wpAny_take (i := 11) (oi := { dst := some 74, op := Op.load 30 (Operand.tmp 73), type := 30, pos := "laws.go:1611", after := #[{ on := 10, ground := Ground.data }, { on := 9, ground := Ground.guard }], guard := some (9, true) }) (v := undef) rfl (by kernel_rfl) (by kernel_rfl) (by kernel_rfl) (fun _ _ _ h => h) (Or.inr ⟨unwanted 9 true rfl (by first | exact Or.inl rfl | exact Or.inr rfl), rfl⟩) ?_
        try simp only [Act.put, List.setIfInBounds_toArray, List.set_cons_zero, List.set_cons_succ]
        refine wpAny_take (i := 12) (oi := { dst := some 75, op := Op.indexAddr 30 (Operand.tmp 74) (Operand.const (Value.int IntKind.i64 0)), type := 0, pos := "laws.go:1611", after := #[{ on := 11, ground := Ground.data }, { on := 9, ground := Ground.guard }], guard := some (9, true) }) (v := undef) rfl (by kernel_rfl) (by kernel_rfl) (by kernel_rfl) (fun _ _ _ h => h) (Or.inr ⟨unwanted 9 true rfl (by first | exact Or.inl rfl | exact Or.inr rfl), rfl⟩) ?_
        try simp only [Act.put, List.setIfInBounds_toArray, List.set_cons_zero, List.set_cons_succ]
        refine wpAny_take (i := 13) (oi := { dst := some 76, op := Op.load 32 (Operand.tmp 75), type := 32, pos := "laws.go:1611", after := #[{ on := 12, ground := Ground.data }, { on := 9, ground := Ground.guard }], guard := some (9, true) }) (v := undef) rfl (by kernel_rfl) (by kernel_rfl) (by kernel_rfl) (fun _ _ _ h => h) (Or.inr ⟨unwanted 9 true rfl (by first | exact Or.inl rfl | exact Or.inr rfl), rfl⟩) ?_
        try simp only [Act.put, List.setIfInBounds_toArray, List.set_cons_zero, List.set_cons_succ]
        refine wpAny_take (i := 14) (oi := { dst := some 77, op := Op.fieldAddr 32 (Operand.tmp 12) 2, type := 0, pos := "laws.go:1611", after := #[{ on := 9, ground := Ground.guard }], guard := some (9, true) }) (v := undef) rfl (by kernel_rfl) (by kernel_rfl) (by kernel_rfl) (fun _ _ _ h => h) (Or.inr ⟨unwanted 9 true rfl (by first | exact Or.inl rfl | exact Or.inr rfl), rfl⟩) ?_
        try simp only [Act.put, List.setIfInBounds_toArray, List.set_cons_zero, List.set_cons_succ]
        refine wpAny_take (i := 15) (oi := { dst := some 78, op := Op.load 30 (Operand.tmp 77), type := 30, pos := "laws.go:1611", after := #[{ on := 14, ground := Ground.data }, { on := 9, ground := Ground.guard }], guard := some (9, true) }) (v := undef) rfl (by kernel_rfl) (by kernel_rfl) (by kernel_rfl) (fun _ _ _ h => h) (Or.inr ⟨unwanted 9 true rfl (by first | exact Or.inl rfl | exact Or.inr rfl), rfl⟩) ?_
        try simp only [Act.put, List.setIfInBounds_toArray, List.set_cons_zero, List.set_cons_succ]
        refine wpAny_take (i := 16) (oi := { dst := some 79, op := Op.indexAddr 30 (Operand.tmp 78) (Operand.const (Value.int IntKind.i64 1)), type := 0, pos := "laws.go:1611", after := #[{ on := 15, ground := Ground.data }, { on := 9, ground := Ground.guard }], guard := some (9, true) }) (v := undef) rfl (by kernel_rfl) (by kernel_rfl) (by kernel_rfl) (fun _ _ _ h => h) (Or.inr ⟨unwanted 9 true rfl (by first | exact Or.inl rfl | exact Or.inr rfl), rfl⟩) ?_
        try simp only [Act.put, List.setIfInBounds_toArray, List.set_cons_zero, List.set_cons_succ]
        refine wpAny_take (i := 17) (oi := { dst := some 80, op := Op.load 32 (Operand.tmp 79), type := 32, pos := "laws.go:1611", after := #[{ on := 16, ground := Ground.data }, { on := 9, ground := Ground.guard }], guard := some (9, true) }) (v := undef) rfl (by kernel_rfl) (by kernel_rfl) (by kernel_rfl) (fun _ _ _ h => h) (Or.inr ⟨unwanted 9 true rfl (by first | exact Or.inl rfl | exact Or.inr rfl), rfl⟩) ?_
        try simp only [Act.put, List.setIfInBounds_toArray, List.set_cons_zero, List.set_cons_succ]
        refine wpAny_take (i := 18) (oi := { dst := some 81, op := Op.call { callee := Callee.value (Operand.func 17), args := #[Operand.tmp 76, Operand.tmp 80], argTypes := #[32, 32] }, type := 4, pos := "laws.go:1611", after := #[{ on := 13, ground := Ground.data }, { on := 17, ground := Ground.data }, { on := 9, ground := Ground.chain }, { on := 9, ground := Ground.guard }], guard := some (9, true) }) (v := undef) rfl (by kernel_rfl) (by kernel_rfl) (by kernel_rfl) (fun _ _ _ h => h) (Or.inr ⟨unwanted 9 true rfl (by first | exact Or.inl rfl | exact Or.inr rfl), rfl⟩) ?_
        try simp only [Act.put, List.setIfInBounds_toArray, List.set_cons_zero, List.set_cons_succ]
        refine wpAny_take (i := 19) (oi := { dst := some 82, op := Op.pick (Operand.tmp 72) (Operand.tmp 81) (Operand.const (Value.bool false)), type := 4, pos := "laws.go:1611", after := #[{ on := 9, ground := Ground.data }, { on := 18, ground := Ground.data }, { on := 5, ground := Ground.guard }], guard := some (5, false) }) (v := undef) rfl (by kernel_rfl) (by kernel_rfl) (by kernel_rfl) (fun _ _ _ h => h) (Or.inr ⟨unwanted 5 false rfl (by first | exact Or.inl rfl | exact Or.inr rfl), rfl⟩) ?_
        try simp only [Act.put, List.setIfInBounds_toArray, List.set_cons_zero, List.set_cons_succ]
        refine wpAny_take (i := 20) (oi := { dst := some 83, op := Op.pick (Operand.tmp 68) (Operand.const (Value.bool true)) (Operand.tmp 82), type := 4, pos := "laws.go:1611", after := #[{ on := 5, ground := Ground.data }, { on := 19, ground := Ground.data }, { on := 2, ground := Ground.guard }], guard := some (2, true) }) (v := ?_) rfl (by kernel_rfl) (by kernel_rfl) (by kernel_rfl) (fun _ _ _ h => h) (Or.inl ⟨by rfl, by intro w; go_simp <;> with_reducible rfl⟩) ?_
        try simp only [Act.put, List.setIfInBounds_toArray, List.set_cons_zero, List.set_cons_succ]
        refine wpAny_take (i := 21) (oi := { dst := some 84, op := Op.pick (Operand.tmp 65) (Operand.tmp 83) (Operand.const (Value.bool false)), type := 4, pos := "laws.go:1611", after := #[{ on := 2, ground := Ground.data }, { on := 20, ground := Ground.data }], guard := none }) (v := ?_) rfl (by kernel_rfl) (by kernel_rfl) (by kernel_rfl) (fun _ _ _ h => h) (Or.inl ⟨by rfl, by intro w; go_simp <;> with_reducible rfl⟩) ?_
        try simp only [Act.put, List.setIfInBounds_toArray, List.set_cons_zero, List.set_cons_succ]
        refine wpAny_take (i := 22) (oi := { dst := some 2, op := Op.assign (Operand.tmp 84), type := 4, pos := "laws.go:1611", after := #[{ on := 21, ground := Ground.data }, { on := 18, ground := Ground.chain }, { on := 0, ground := Ground.phase }, { on := 1, ground := Ground.phase }, { on := 2, ground := Ground.phase }, { on := 3, ground := Ground.phase }, { on := 4, ground := Ground.phase }, { on := 5, ground := Ground.phase }, { on := 6, ground := Ground.phase }, { on := 7, ground := Ground.phase }, { on := 8, ground := Ground.phase }, { on := 9, ground := Ground.phase }, { on := 10, ground := Ground.phase }, { on := 11, ground := Ground.phase }, { on := 12, ground := Ground.phase }, { on := 13, ground := Ground.phase }, { on := 14, ground := Ground.phase }, { on := 15, ground := Ground.phase }, { on := 16, ground := Ground.phase }, { on := 17, ground := Ground.phase }, { on := 18, ground := Ground.phase }, { on := 19, ground := Ground.phase }, { on := 20, ground := Ground.phase }, { on := 21, ground := Ground.phase }], guard := none }) (v := ?_) rfl (by kernel_rfl) (by kernel_rfl) (by kernel_rfl) (fun _ _ _ h => h) (Or.inl ⟨by rfl, by intro w; go_simp <;> with_reducible rfl⟩) ?_
        try simp only [Act.put, List.setIfInBounds_toArray, List.set_cons_zero, List.set_cons_succ]
        refine wpAny_done (by kernel_rfl) ?_ _
        go_wp2_with fail
        go_ret
        exact ⟨rfl, HB1.out.trans ((HX3.out.trans (HB10.out.drew.mono HLE.out)).mono HB1.out.size)⟩
      · have HP1 := mkHid hp
        clear hp
        refine (HP1.out w8 _ HS8.out.row.inn).mono ?_
        rintro e w9 ⟨kb, ko, cap9, c, d, rfl, k0, k1, k2, k3, k4, k5, hc, hd, hi, hkb, hb9⟩
        have HB9 : Hid (Below (w3.heap.size + 1) (w3.alloc (.cells #[.int .i64 x3, .int .i64 y3, .slice a3 n3 c3] 32)) w9) := HB8.out.trans (hb9.mono (Nat.le_trans HLO.out HB8.out.size))
        have HI9 := mkHid hi
        have hb10 : Below w9.heap.size w9 (w9.alloc (.cells #[.int .i64 5, .int .i64 0, .slice (some ⟨kb, ko, none⟩) 2 cap9] 32)) := box_below _ _
        have hz10 : (w9.alloc (.cells #[.int .i64 5, .int .i64 0, .slice (some ⟨kb, ko, none⟩) 2 cap9] 32)).heap[w9.heap.size]? = some (.cells #[.int .i64 5, .int .i64 0, .slice (some ⟨kb, ko, none⟩) 2 cap9] 32) := Deep.blk_alloc_new _ _
        obtain ⟨w10, hw10⟩ : ∃ W, W = w9.alloc (.cells #[.int .i64 5, .int .i64 0, .slice (some ⟨kb, ko, none⟩) 2 cap9] 32) := ⟨_, rfl⟩
        rw [← hw10] at hb10 hz10
        have HB10 : Hid (Below (w3.heap.size + 1) (w3.alloc (.cells #[.int .i64 x3, .int .i64 y3, .slice a3 n3 c3] 32)) w10) := HB9.out.trans (hb10.mono (Nat.le_trans HLO.out HB9.out.size))
        have HW10 : Hid (w9.alloc (.cells #[.int .i64 5, .int .i64 0, .slice (some ⟨kb, ko, none⟩) 2 cap9] 32) = w10) := hw10.symm
        have HC10 : Hid (InP w10 t.kids c) := hc.nextP hb10
        have HD10 : Hid (InP w10 t.kids d) := hd.nextP hb10
        replace k0 := carry hb10 k0
        replace k1 := carry hb10 k1
        replace k2 := carry hb10 k2
        replace k3 := carry hb10 k3
        replace k4 := carry hb10 k4
        replace k5 := carry hb10 k5
        have r0 := cell_of_blk hz10 0 _ rfl
        have r1 := cell_of_blk hz10 1 _ rfl
        have r2 := cell_of_blk hz10 2 _ rfl
        obtain ⟨adc, capc, rfl, -, -, -⟩ := hc
        obtain ⟨add, capd, rfl, -, -, -⟩ := hd
        clear hb9 hi hkb hb10 hz10 hw10
        go_wp2_with fail
        rw [HW10.out]
        go_region_held3 (fun w' => w'.cell? ⟨w9.heap.size, 0, none⟩ = some (.int .i64 5) ∧ w'.cell? ⟨w9.heap.size, 2, none⟩ = some (.slice (some ⟨kb, ko, none⟩) 2 cap9) ∧ w'.cell? ⟨kb, ko, none⟩ = some (.int .i64 t.op) ∧ w'.cell? ⟨kb, ko + 1, none⟩ = some (.int .i64 t.num) ∧ w'.cell? ⟨kb, ko + 2, none⟩ = some (.slice adc t.kids.length capc) ∧ w'.cell? ⟨kb, ko + 3, none⟩ = some (.int .i64 t.op) ∧ w'.cell? ⟨kb, ko + 4, none⟩ = some (.int .i64 t.num) ∧ w'.cell? ⟨kb, ko + 5, none⟩ = some (.slice add t.kids.length capd))
          (first | go_keep | exact ⟨r0, r2, k0, k1, k2, k3, k4, k5⟩ | exact ⟨z0, z2, j0, j1, j2, j3, j4, j5⟩)
          ((go_at_call 17; go_must (refine (implSame_calls t t _ _ _ ?_ ?_ HI9.out HI9.out HSZ.out).mono ?_); go_must (exact HC10.out.nextP ((Below.refl _ _).drew)); go_must (exact HD10.out.nextP ((Below.refl _ _).drew)); go_must (rintro e w11 ⟨⟨bw, rfl, hbw⟩, hb11⟩); go_must (obtain rfl : bw = true := hbw.2 rfl); go_must (have HB11 : Hid (Below (w3.heap.size + 1) (w3.alloc (.cells #[.int .i64 x3, .int .i64 y3, .slice a3 n3 c3] 32)) w11) := HB10.out.drew.trans (hb11.mono (Nat.le_trans HLO.out HB10.out.drew.size))); go_must (have HBZ : Hid (Below w10.heap.size w10 w11) := (Below.refl _ _).drew.trans hb11); go_must (have z0 := carry HBZ.out r0); go_must (have z2 := carry HBZ.out r2); go_must (have j0 := carry HBZ.out k0); go_must (have j1 := carry HBZ.out k1); go_must (have j2 := carry HBZ.out k2); go_must (have j3 := carry HBZ.out k3); go_must (have j4 := carry HBZ.out k4); go_must (have j5 := carry HBZ.out k5); clear hb11 hbw))
        all_goals
          go_wp2_with fail
          go_ret
          exact ⟨rfl, HB1.out.trans ((HX3.out.trans (HB11.out.mono HLE.out)).mono HB1.out.size)⟩
end Go.Proofs.Ytekdipmioogohaa.lawCodeTwo
