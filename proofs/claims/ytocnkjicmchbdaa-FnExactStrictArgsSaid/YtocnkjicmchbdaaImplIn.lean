/-
  THE PROGRAM's needs, callNeeds AND StrictIn: which variables an expression needs; nothing that was there is changed.
-/
import Derived.Test.YtocnkjicmchbdaaSpecIn
import Derived.Test.YtocnkjicmchbdaaImplValid
namespace Go.Proofs.Ytocnkjicmchbdaa
set_option linter.unusedVariables false
set_option linter.unusedSimpArgs false
open Go.RowKit

/-- what l9In does at a tree -/
def ImSaid (need : List (List Bool)) (v : Int) (t : Tr) : Prop := ∀ (c p : Value) (w : World), InP w t.kids c → NIn w need p → I64 t.op ∧ I64 t.num →
  Calls Try.prog 57 #[.agg #[.int .i64 t.op, .int .i64 t.num, c], .int .i64 v, p] w fun e w' => e = .returned (.bool (needB need v t)) ∧ Below w.heap.size w w'

/-- an argument, in its cells -/
theorem cd_atP {w : World} {lo : Nat} {l : List Cd} {va : Value} (hrow : CdRow w lo l va) (hl : ∀ d ∈ l, TrOn w (Pl w) d.1 d.2.1 d.2.2.1 d.2.2.2) (j : Nat) (hj : j < l.length) :
    ∃ g cap cv, va = .slice (some ⟨g, 0, none⟩) l.length cap ∧ l.length ≤ cap ∧ w.cell? ⟨g, j * 3, none⟩ = some (.int .i64 l[j].1.op) ∧ w.cell? ⟨g, j * 3 + 1, none⟩ = some (.int .i64 l[j].1.num) ∧ w.cell? ⟨g, j * 3 + 2, none⟩ = some cv ∧ InP w l[j].1.kids cv ∧ I64 l[j].1.op ∧ I64 l[j].1.num := by
  rcases hrow with ⟨rfl, -⟩ | ⟨g, cap, f, rfl, -, hc, -, hr, hf⟩
  · simp at hj
  obtain ⟨f0, f1, f2⟩ := hf j hj
  obtain ⟨e0, e1, i0, i1, hk⟩ := trOn_iff.1 (hl _ (List.getElem_mem hj))
  refine ⟨g, cap, l[j].2.2.2, rfl, hc, ?_, ?_, ?_, hk, i0, i1⟩
  · rw [hr.cell (by omega), f0, e0]
  · rw [hr.cell (by omega), f1, e1]
  · rw [hr.cell (by omega), f2]

set_option maxRecDepth 100000 in
set_option maxHeartbeats 1600000 in
theorem callNeeds_calls (need : List (List Bool)) (v : Int) (t : Tr) (ad : Option Addr) (cap : Nat) (adp : Option Addr) (capp : Nat) (w : World) (hsh : ShE t) (hz : szT t ≤ 1099511627776) (ih : ∀ x, szT x < szT t → ShE x → ImSaid need v x) (h34 : t.op = 3 ∨ t.op = 4)
    (hk : InP w t.kids (.slice ad t.kids.length cap)) (hn : NIn w need (.slice adp need.length capp)) (ht : I64 t.op ∧ I64 t.num) :
    Calls Try.prog 101 #[.agg #[.int .i64 t.op, .int .i64 t.num, .slice ad t.kids.length cap], .int .i64 v, .slice adp need.length capp] w fun e w' => e = .returned (.bool (needB need v t)) ∧ Below w.heap.size w w' := by
  have HT := mkHid ht
  have HS := mkHid hsh
  have HI := mkHid ih
  have HB0 : Hid (Below w.heap.size w (w.alloc (.cells #[.int .i64 t.op, .int .i64 t.num, .slice ad t.kids.length cap] 31))) := box_below _ _
  have HN0 : Hid (NIn (w.alloc (.cells #[.int .i64 t.op, .int .i64 t.num, .slice ad t.kids.length cap] 31)) need (.slice adp need.length capp)) := hn.next HB0.out
  have HK0 : Hid (InP (w.alloc (.cells #[.int .i64 t.op, .int .i64 t.num, .slice ad t.kids.length cap] 31)) t.kids (.slice ad t.kids.length cap)) := hk.nextP HB0.out
  have HL := mkHid (unwind_calls t _ _ HK0.out HT.out hz)
  have HZ := mkHid hz
  have H34 := mkHid h34
  obtain ⟨r, hr⟩ : ∃ r, r = needB need v t := ⟨_, rfl⟩
  rw [← hr]
  have HR0 := mkHid hr
  clear hsh ih ht hk hn hz h34 hr
  go_enter Try.func101, Try.ntmps101
  go_wp2_with fail
  refine HL.out.mono ?_
  rintro e w1 ⟨F, cf, l, va, rfl, hu, hs, hcd, hb1⟩
  have hsE := hu.shE HS.out
  have hon := hu.on HK0.out HT.out
  have hsm := hu.small
  have hval := needB_call (need := need) (v := v) hu hs
  obtain ⟨ada, capa, hva⟩ := hcd.form
  obtain ⟨adf, capf, rfl, -, -, -⟩ := id hon.1
  obtain ⟨wx, hwx⟩ : ∃ wx, wx = w1.alloc (.cells #[.int .i64 F.op, .int .i64 F.num, .slice adf F.kids.length capf] 31) := ⟨_, rfl⟩
  have hbx : Below w1.heap.size w1 wx := by rw [hwx]; exact box_below _ _
  have hb0x := hb1.trans (hbx.mono hb1.size)
  have HBX : Hid (Below w.heap.size w wx) := HB0.out.trans (hb0x.mono HB0.out.size)
  have HX : Hid (wx.heap[w1.heap.size]? = some (.cells #[.int .i64 F.op, .int .i64 F.num, .slice adf F.kids.length capf] 31)) := by rw [hwx]; exact Deep.blk_alloc_new _ _
  have HK : Hid (InP wx F.kids (.slice adf F.kids.length capf)) := hon.1.nextP hb0x
  have HN : Hid (NIn wx need (.slice adp need.length capp)) := HN0.out.next hb0x
  have HFI : Hid (I64 F.op ∧ I64 F.num) := ⟨hon.2.1, hon.2.2.1⟩
  have HL2 : Hid (∀ d ∈ l.reverse, TrOn wx (Pl wx) d.1 d.2.1 d.2.2.1 d.2.2.2) := fun d hd => (hon.2.2.2.1 d (by simpa using hd)).nextP hb0x
  have HR : Hid (CdRow wx w1.heap.size l.reverse va ∨ True) := Or.inr trivial
  have HR : Hid (CdRow wx (w.alloc (.cells #[.int .i64 t.op, .int .i64 t.num, .slice ad t.kids.length cap] 31)).heap.size l.reverse va) := hcd.keep (Nat.le_refl _) fun k _ hk => hbx.block k hk
  have HIL : Hid (∀ d ∈ l.reverse, ImSaid need v d.1) := by
    intro d hd
    have hd' : d ∈ l := by simpa using hd
    rcases hsm with ⟨rfl, rfl⟩ | ⟨-, h1⟩
    · simp at hd'
    · exact HI.out d.1 (h1 d hd') (hsE.2 d hd')
  have HLL : Hid (l.length ≤ 1099511627776) := by have := hon.2.2.2.2; have := HZ.out; unfold Hid; omega
  have HIF : Hid (F.op ≠ 3 → ImSaid need v F) := by
    intro h3
    rcases hsm with ⟨rfl, rfl⟩ | ⟨h1, -⟩
    · rcases H34.out with h | h
      · exact absurd h h3
      · have ha := hsE.1.ar
        rw [h] at ha
        exact absurd ⟨h, by have : arity 4 = 2 := by decide
                            omega⟩ hs
    · exact HI.out F h1 hsE.1
  have HVAL := mkHid (HR0.out.trans hval)
  by_cases ho : F.op = 3
  case neg =>
    have t3 : (F.op != 3) = true := by simpa using ho
    have HV := mkHid (needG_acc (need := need) (v := v) ho hs (l.reverse.map fun d => needB need v d.1))
    have HFC := mkHid (HIF.out ho)
    have HVV := mkHid (HVAL.out.trans HV.out)
    have hva2 := hva
    rw [List.length_reverse] at hva2
    subst hva2
    clear ho hs hsE hon hsm hval hcd hva hb1 hu
    go_wp2_with fail
    rw [← hwx]
    clear hwx
    refine (HFC.out _ _ _ HK.out HN.out HFI.out).mono ?_
    rintro e w2 ⟨rfl, hb2⟩
    have HB2 : Hid (Below w.heap.size w w2) := HBX.out.trans (hb2.mono HBX.out.size)
    clear hb2
    go_wp2_with fail
    go_ret
    exact ⟨ret_bool HVV.out.symm, HB2.out⟩
  obtain ⟨hn0, hn6⟩ := hsE.1.num ho
  have hkn : F.kids = [] := by
    have ha := hsE.1.ar
    rw [ho] at ha
    exact List.eq_nil_of_length_eq_zero (by have : arity 3 = 0 := by decide
                                            omega)
  obtain ⟨k, hkk⟩ : ∃ k : Nat, F.num = (k : Int) := ⟨F.num.toNat, by omega⟩
  have hk6 : k < 6 := by omega
  have HV := mkHid (needG_fun (need := need) (v := v) ho hkn hkk (l.reverse.map fun d => needB need v d.1))
  have HVC := mkHid (HVAL.out.trans HV.out)
  have t3 : (F.op != 3) = false := by simp [ho]
  obtain ⟨l', hl'⟩ : ∃ l', l' = l.reverse := ⟨_, rfl⟩
  have hll' : l.length = l'.length := by rw [hl', List.length_reverse]
  rw [← hl'] at HL2 HR HIL hva HVC
  rw [hll'] at HLL
  rw [hkk] at HX hwx ⊢
  subst hva
  obtain ⟨_, _, hpe, hpl, hpm, -⟩ := id HN.out
  cases hpe
  unfold maxLen at hpm
  clear hs hsE hon hsm hval hcd hb1 hu hn0 hn6 hkn hkk HV hll' hl' ho HIF HVAL HR0
  generalize hll : l'.length = ll at *
  have hX1 := cell_of_blk HX.out 1 _ rfl
  by_cases hge : need.length ≤ k
  · have hgI : (need.length : Int) ≤ (k : Int) := by omega
    have HV := mkHid (callB_none (bs := l'.map fun d => needB need v d.1) hge)
    have HVV := mkHid (HVC.out.trans HV.out)
    clear hge hpl hpm HLL hll hX1
    go_wp2_with fail
    go_ret
    rw [← hwx]
    exact ⟨ret_bool HVV.out.symm, HBX.out⟩
  have hlt : k < need.length := by omega
  obtain ⟨nb, noff, rv, rfl, hnb, hn0, hrw⟩ := HN.out.at k hlt
  obtain ⟨adr, capr, rfl, hrl, hrm, -⟩ := id hrw
  unfold maxLen at hrm
  have hltI : (k : Int) < (need.length : Int) := by omega
  have n0 := hn0
  rw [hwx] at n0
  by_cases hfew : ll < need[k].length
  · have hfI : (ll : Int) < (need[k].length : Int) := by omega
    have HV := mkHid (callB_few (bs := l'.map fun d => needB need v d.1) hlt (by rw [List.length_map, hll]; exact hfew))
    have HVV := mkHid (HVC.out.trans HV.out)
    generalize need[k].length = m at *
    clear hge hfew hrl hrw hnb hX1 hn0
    go_wp2_with fail
    go_ret
    rw [← hwx]
    exact ⟨ret_bool HVV.out.symm, HBX.out⟩
  have HV := mkHid (callB_some (bs := l'.map fun d => needB need v d.1) hlt (by rw [List.length_map, hll]; omega))
  obtain ⟨row, hrow⟩ : ∃ row, row = need[k] := ⟨_, rfl⟩
  rw [← hrow] at hfew n0 hn0 hrw hrl HV
  have HVV := mkHid (HVC.out.trans HV.out)
  have HRW := mkHid hrw
  have hrl2 : row.length ≤ ll := by omega
  have hfI : (row.length : Int) ≤ (ll : Int) := by omega
  have d1 : decide (need.length ≤ k) = false := by simpa using hlt
  have d2 : decide (ll < row.length) = false := by simpa using hrl2
  clear hge hfew hrow hrw hnb hn0 hX1
  go_wp2_with fail
  rw [← hwx]
  clear n0
  go_loopw [47] (fun i wr => ∃ j : Nat, j ≤ row.length ∧ i = .int .i64 j ∧ anyTo row (l'.map fun d => needB need v d.1) j = false ∧ Below wx.heap.size wx wr) (fun i _ => row.length - (intOf i).toNat)
  case atStart => exact ⟨0, Nat.zero_le _, rfl, anyTo_zero _ _, Below.refl _ _⟩
  case round =>
    obtain ⟨j, hj, rfl, hany, hb⟩ := hrel
    have HA := mkHid hany
    have HBW : Hid (Below w.heap.size w wr) := HBX.out.trans (hb.mono HBX.out.size)
    have HB := mkHid hb
    clear hany hb
    by_cases hjl : j < row.length
    · obtain ⟨rb, roff, rfl, hrb, hr0⟩ := HRW.out.at j hjl
      obtain ⟨b, hbe⟩ : ∃ b, b = row[j] := ⟨_, rfl⟩
      rw [← hbe] at hr0
      have r0 := (HB.out.cell (cell_lt hr0)).trans hr0
      obtain ⟨ga, ca, cv, hea, hcl, a0', a1', a2', hka, hia, hin⟩ := cd_atP HR.out HL2.out j (by omega)
      simp only [Value.slice.injEq] at hea
      obtain ⟨rfl, -, rfl⟩ := hea
      have a0 := (HB.out.cell (cell_lt a0')).trans a0'
      have a1 := (HB.out.cell (cell_lt a1')).trans a1'
      have a2 := (HB.out.cell (cell_lt a2')).trans a2'
      have HC := mkHid (HIL.out l'[j] (List.getElem_mem _))
      have HKA := mkHid hka
      have HIA := mkHid (And.intro hia hin)
      obtain ⟨adx, capx, rfl, -, -, -⟩ := id hka
      obtain ⟨x, hx⟩ : ∃ x, x = l'[j].1 := ⟨_, rfl⟩
      have hjl2 : j < (l'.map fun d => needB need v d.1).length := by rw [List.length_map]; omega
      have HS := mkHid (anyTo_succ row (l'.map fun d => needB need v d.1) j hjl hjl2)
      have HT := mkHid (anyTo_true row (l'.map fun d => needB need v d.1) j hjl hjl2 (by rw [List.length_map]; omega))
      have hmj : (l'.map fun d => needB need v d.1)[j] = needB need v x := by rw [hx, List.getElem_map]
      rw [hmj, ← hbe] at HS HT
      rw [← hx] at HC HKA HIA a0 a1 a2
      obtain ⟨bb, hbb⟩ : ∃ bb, bb = needB need v x := ⟨_, rfl⟩
      have HCC : Hid (∀ W, Below wr.heap.size wr W → Calls Try.prog 57 #[.agg #[.int .i64 x.op, .int .i64 x.num, .slice adx x.kids.length capx], .int .i64 v, .slice (some ⟨nb, noff, none⟩) need.length capp] W fun e w' => e = .returned (.bool bb) ∧ Below W.heap.size W w') := fun W hW => by
        rw [hbb]
        exact HC.out _ _ W ((HKA.out.nextP HB.out).nextP hW) ((HN.out.next HB.out).next hW) HIA.out
      rw [← hbb] at HS HT
      clear hbe hr0 hka hia hin hx hmj hbb a0' a1' a2' hrb HC
      have hjaI : (j : Int) < (ll : Int) := by omega
      cases b with
      | false =>
        have HS2 : Hid (anyTo row (l'.map fun d => needB need v d.1) (j + 1) = false) := by rw [Hid, HS.out, HA.out]; rfl
        clear a0 a1 a2
        go_wp2_with fail
        go_roundw
        case rel => exact ⟨j + 1, by omega, by go_num, HS2.out, HB.out⟩
        case measure => simp [intOf]; omega
      | true =>
        go_wp2_with fail
        refine (HCC.out _ (Below.refl _ _)).mono ?_
        rintro e w1 ⟨rfl, hb1⟩
        have HB1 := mkHid (HB.out.trans (hb1.mono HB.out.size))
        have HBW1 : Hid (Below w.heap.size w w1) := HBW.out.trans (hb1.mono HBW.out.size)
        clear hb1 r0 a0 a1 a2
        cases bb with
        | false =>
          have HS2 : Hid (anyTo row (l'.map fun d => needB need v d.1) (j + 1) = false) := by rw [Hid, HS.out, HA.out]; rfl
          go_wp2_with fail
          go_roundw
          case rel => exact ⟨j + 1, by omega, by go_num, HS2.out, HB1.out⟩
          case measure => simp [intOf]; omega
        | true =>
          have HV2 := mkHid (HT.out (by trivial) (by trivial))
          go_wp2_with fail
          go_ret
          exact ⟨ret_bool (HVV.out.trans HV2.out).symm, HBW1.out⟩
    · have hje : j = row.length := by omega
      have HV2 : Hid (((row.zip (l'.map fun d => needB need v d.1)).any fun p => p.1 && p.2) = false) := by rw [Hid, ← anyTo_all _ _ (by rw [List.length_map]; omega), ← hje]; exact HA.out
      clear hje
      go_wp2_with fail
      go_ret
      exact ⟨ret_bool (HVV.out.trans HV2.out).symm, HBW.out⟩

set_option maxRecDepth 100000 in
set_option maxHeartbeats 800000 in
theorem needs_app (need : List (List Bool)) (v : Int) (t : Tr) (ad : Option Addr) (cap : Nat) (adp : Option Addr) (capp : Nat) (w : World) (h34 : t.op = 3 ∨ t.op = 4) (hsh : ShE t) (hz : szT t ≤ 1099511627776) (ih : ∀ x, szT x < szT t → ShE x → ImSaid need v x)
    (hk : InP w t.kids (.slice ad t.kids.length cap)) (hn : NIn w need (.slice adp need.length capp)) (ht : I64 t.op ∧ I64 t.num) :
    Calls Try.prog 57 #[.agg #[.int .i64 t.op, .int .i64 t.num, .slice ad t.kids.length cap], .int .i64 v, .slice adp need.length capp] w fun e w' => e = .returned (.bool (needB need v t)) ∧ Below w.heap.size w w' := by
  have HBX : Hid (Below w.heap.size w (w.alloc (.cells #[.int .i64 t.op, .int .i64 t.num, .slice ad t.kids.length cap] 31))) := box_below _ _
  have HC := mkHid (callNeeds_calls need v t ad cap adp capp _ hsh hz ih h34 (hk.nextP HBX.out) (hn.next HBX.out) ht)
  obtain ⟨r, hr⟩ : ∃ r, r = needB need v t := ⟨_, rfl⟩
  rw [← hr] at HC ⊢
  clear hsh ih ht hk hn hz hr
  rcases h34 with h | h
  all_goals
    rw [h] at HBX HC ⊢
    clear h
    go_enter Try.func57, Try.ntmps57
    go_wp2_with fail
    refine HC.out.mono ?_
    rintro e w1 ⟨rfl, hb1⟩
    have HB1 : Hid (Below w.heap.size w w1) := HBX.out.trans (hb1.mono HBX.out.size)
    clear hb1
    go_wp2_with fail
    go_ret
    exact ⟨rfl, HB1.out⟩

set_option maxRecDepth 100000 in
set_option maxHeartbeats 800000 in
theorem needs_step (need : List (List Bool)) (v : Int) (t : Tr) (hsh : ShE t) (hz : szT t ≤ 1099511627776) (ih : ∀ x, szT x < szT t → ShE x → ImSaid need v x) : ImSaid need v t := by
  intro c p w hk hn ht
  have HK := mkHid hk
  have HN := mkHid hn
  have HT := mkHid ht
  have HS := mkHid hsh
  have HI := mkHid ih
  obtain ⟨ad, cap, rfl, -, -, -⟩ := hk
  obtain ⟨adp, capp, rfl, -, -, -⟩ := hn
  have HBX : Hid (Below w.heap.size w (w.alloc (.cells #[.int .i64 t.op, .int .i64 t.num, .slice ad t.kids.length cap] 31))) := box_below _ _
  have kid : ∀ (i : Nat) (hi : i < t.kids.length), ∃ bl off adk capk, ad = some ⟨bl, off, none⟩ ∧ w.cell? ⟨bl, off + i * 3, none⟩ = some (.int .i64 t.kids[i].op) ∧ w.cell? ⟨bl, off + i * 3 + 1, none⟩ = some (.int .i64 t.kids[i].num) ∧ w.cell? ⟨bl, off + i * 3 + 2, none⟩ = some (.slice adk t.kids[i].kids.length capk) ∧
      ∀ W, Below w.heap.size w W → Calls Try.prog 57 #[.agg #[.int .i64 t.kids[i].op, .int .i64 t.kids[i].num, .slice adk t.kids[i].kids.length capk], .int .i64 v, .slice adp need.length capp] W fun e w' => e = .returned (.bool (needB need v t.kids[i])) ∧ Below W.heap.size W w' := by
    intro i hi
    obtain ⟨_, _, he, -, -, hr⟩ := HK.out
    cases he
    rcases hr with hnil | ⟨bl, off, rfl, -, hr⟩
    · rw [hnil] at hi; simp at hi
    obtain ⟨a, b, r, e0, e1, e2, htr⟩ := RowOn.at t.kids off i hi hr
    obtain ⟨rfl, rfl, i0, i1, hkk⟩ := trOn_iff.1 htr
    obtain ⟨adk, capk, rfl, -, -, -⟩ := id hkk
    exact ⟨bl, off, adk, capk, rfl, e0, e1, e2, fun W hW => HI.out _ (by have := szT_lt_szL t.kids i hi; rw [szT_eq t]; exact this) (HS.out.kid (List.getElem_mem hi)) _ _ W (hkk.nextP hW) (HN.out.next hW) ⟨i0, i1⟩⟩
  have HKI := mkHid kid
  have HAP : Hid ((t.op = 3 ∨ t.op = 4) → Calls Try.prog 57 #[.agg #[.int .i64 t.op, .int .i64 t.num, .slice ad t.kids.length cap], .int .i64 v, .slice adp need.length capp] w fun e w' => e = .returned (.bool (needB need v t)) ∧ Below w.heap.size w w') :=
    fun h => needs_app need v t ad cap adp capp w h HS.out hz HI.out HK.out HN.out HT.out
  clear hsh ih ht kid
  rcases HS.out.cases with ⟨ho, hk0⟩ | ⟨ho, a, hk1⟩ | ⟨ho, a, b, hk2⟩ | ⟨ho, a, b, d, hk3⟩
  · by_cases h1 : t.op = 1
    · have t1 : (t.op == 1) = true := by simpa using h1
      have HV : Hid (needB need v t = decide (t.num = v)) := by unfold Hid needB; rw [needG_leaf hk0, if_pos h1]
      clear h1 ho hk0
      go_enter Try.func57, Try.ntmps57
      go_wp2_with fail
      go_ret
      exact ⟨ret_bool (by rw [HV.out]; rfl), HBX.out⟩
    by_cases h2 : t.op = 2
    · have HV : Hid (needB need v t = false) := by unfold Hid needB; rw [needG_leaf hk0, if_neg h1, if_neg (by omega)]
      have t2 : t.op = 2 := h2
      rw [HV.out, t2]
      rw [t2] at HBX
      clear h1 ho hk0 h2 t2
      go_enter Try.func57, Try.ntmps57
      go_wp2_with fail
      go_ret
      exact ⟨rfl, HBX.out⟩
    have h3 : t.op = 3 := by omega
    exact HAP.out (Or.inl h3)
  · have hl1 : t.kids.length = 1 := by rw [hk1]; rfl
    have hkf := HKI.out 0 (by omega)
    simp only [hk1, List.getElem_cons_zero] at hkf
    obtain ⟨bl, off, adk, capk, rfl, c0, c1, c2, hc⟩ := hkf
    have HC := mkHid hc
    have HV : Hid (needB need v t = needB need v a) := by unfold Hid; conv => lhs; unfold needB; rw [needG_one hk1, if_pos ho]
    have k0 := old_cell c0 (.cells #[.int .i64 t.op, .int .i64 t.num, .slice (some ⟨bl, off, none⟩) 1 cap] 31)
    have k1 := old_cell c1 (.cells #[.int .i64 t.op, .int .i64 t.num, .slice (some ⟨bl, off, none⟩) 1 cap] 31)
    have k2 := old_cell c2 (.cells #[.int .i64 t.op, .int .i64 t.num, .slice (some ⟨bl, off, none⟩) 1 cap] 31)
    rw [HV.out]
    rw [hl1] at HBX ⊢
    simp only [Nat.zero_mul, Nat.add_zero] at k0 k1 k2
    clear hk1 hl1 c0 c1 c2 hc
    rcases ho with ho | ho
    all_goals
      rw [ho] at HBX k0 k1 k2 ⊢
      clear ho
      go_enter Try.func57, Try.ntmps57
      go_wp2_with fail
      refine (HC.out _ HBX.out).mono ?_
      rintro e w1 ⟨rfl, hb1⟩
      have HB1 : Hid (Below w.heap.size w w1) := HBX.out.trans (hb1.mono HBX.out.size)
      clear hb1 k0 k1 k2
      go_wp2_with fail
      go_ret
      exact ⟨rfl, HB1.out⟩
  · by_cases h4 : t.op = 4
    · exact HAP.out (Or.inr h4)
    by_cases h5 : t.op = 5
    · have HV : Hid (needB need v t = false) := by unfold Hid needB; rw [needG_two hk2, if_neg h4, if_neg (by omega)]
      rw [HV.out]
      rw [h5] at HBX ⊢
      clear ho h4 h5 hk2
      go_enter Try.func57, Try.ntmps57
      go_wp2_with fail
      go_ret
      exact ⟨rfl, HBX.out⟩
    have hl2 : t.kids.length = 2 := by rw [hk2]; rfl
    have hkf := HKI.out 0 (by omega)
    have hkg := HKI.out 1 (by omega)
    simp only [hk2, List.getElem_cons_zero, List.getElem_cons_succ] at hkf hkg
    obtain ⟨bl, off, adk, capk, rfl, c0, c1, c2, hc⟩ := hkf
    obtain ⟨bl', off', adk', capk', he, d0, d1, d2, hd⟩ := hkg
    simp only [Option.some.injEq, Addr.mk.injEq, and_true] at he
    obtain ⟨rfl, rfl⟩ := he
    have ho8 : t.op = 8 ∨ t.op = 9 := by omega
    obtain ⟨x, hx⟩ : ∃ x, x = needB need v a := ⟨_, rfl⟩
    obtain ⟨y, hy⟩ : ∃ y, y = needB need v b := ⟨_, rfl⟩
    have HV : Hid (needB need v t = (x || y)) := by rw [hx, hy]; unfold Hid; conv => lhs; unfold needB; rw [needG_two hk2, if_neg h4, if_pos ho8]
    rw [← hx] at hc
    rw [← hy] at hd
    have HC := mkHid hc
    have HD := mkHid hd
    have HB0 := mkHid (Below.refl w.heap.size w)
    have e0 := fun W (h : Below w.heap.size w W) => (h.cell (cell_lt c0)).trans c0
    have e1 := fun W (h : Below w.heap.size w W) => (h.cell (cell_lt c1)).trans c1
    have e2 := fun W (h : Below w.heap.size w W) => (h.cell (cell_lt c2)).trans c2
    have g0 := fun W (h : Below w.heap.size w W) => (h.cell (cell_lt d0)).trans d0
    have g1 := fun W (h : Below w.heap.size w W) => (h.cell (cell_lt d1)).trans d1
    have g2 := fun W (h : Below w.heap.size w W) => (h.cell (cell_lt d2)).trans d2
    simp only [Nat.zero_mul, Nat.add_zero, Nat.one_mul] at e0 e1 e2 g0 g1 g2
    have HE := mkHid (And.intro e0 (And.intro e1 (And.intro e2 (And.intro g0 (And.intro g1 g2)))))
    rw [HV.out]
    rw [hl2] at HBX ⊢
    have hbx : (w.alloc (.cells #[.int .i64 t.op, .int .i64 t.num, .slice (some ⟨bl, off, none⟩) 2 cap] 31)).heap[w.heap.size]? = some (.cells #[.int .i64 t.op, .int .i64 t.num, .slice (some ⟨bl, off, none⟩) 2 cap] 31) := Deep.blk_alloc_new _ _
    have hbz : w.heap.size < (w.alloc (.cells #[.int .i64 t.op, .int .i64 t.num, .slice (some ⟨bl, off, none⟩) 2 cap] 31)).heap.size := by rw [Deep.nblk_alloc]; omega
    have k0 := HE.out.1 _ HBX.out
    have k1 := HE.out.2.1 _ HBX.out
    have k2 := HE.out.2.2.1 _ HBX.out
    clear hk2 hl2 c0 c1 c2 d0 d1 d2 hc hd e0 e1 e2 g0 g1 g2 ho hx hy h4 h5
    have HX := mkHid hbx
    have HZ := mkHid hbz
    clear hbx hbz
    rcases ho8 with ho | ho
    all_goals
      rw [ho] at HBX k0 k1 k2 HX HZ ⊢
      clear ho
      cases x with
      | true =>
        rw [Bool.true_or]
        go_enter Try.func57, Try.ntmps57
        go_wp2_with fail
        refine (HC.out _ HBX.out).mono ?_
        rintro e w1 ⟨rfl, hb1⟩
        have HB1 : Hid (Below w.heap.size w w1) := HBX.out.trans (hb1.mono HBX.out.size)
        clear hb1 k0 k1 k2
        go_wp2_with fail
        go_ret
        exact ⟨rfl, HB1.out⟩
      | false =>
        rw [Bool.false_or]
        go_enter Try.func57, Try.ntmps57
        go_wp2_with fail
        refine (HC.out _ HBX.out).mono ?_
        rintro e w1 ⟨rfl, hb1⟩
        have HB1 : Hid (Below w.heap.size w w1) := HBX.out.trans (hb1.mono HBX.out.size)
        have x2 := cell_of_blk ((hb1.block _ HZ.out).trans HX.out) 2 _ rfl
        have l0 := HE.out.2.2.2.1 _ HB1.out
        have l1 := HE.out.2.2.2.2.1 _ HB1.out
        have l2 := HE.out.2.2.2.2.2 _ HB1.out
        clear hb1 k0 k1 k2
        go_wp2_with fail
        refine (HD.out _ HB1.out).mono ?_
        rintro e w2 ⟨rfl, hb2⟩
        have HB2 : Hid (Below w.heap.size w w2) := HB1.out.trans (hb2.mono HB1.out.size)
        clear hb2 l0 l1 l2 x2
        go_wp2_with fail
        go_ret
        exact ⟨rfl, HB2.out⟩
  · have hl3 : t.kids.length = 3 := by rw [hk3]; rfl
    have hkf := HKI.out 0 (by omega)
    have hkg := HKI.out 1 (by omega)
    have hkh := HKI.out 2 (by omega)
    simp only [hk3, List.getElem_cons_zero, List.getElem_cons_succ] at hkf hkg hkh
    obtain ⟨bl, off, adk, capk, rfl, c0, c1, c2, hc⟩ := hkf
    obtain ⟨bl', off', adk', capk', he, d0, d1, d2, hd⟩ := hkg
    simp only [Option.some.injEq, Addr.mk.injEq, and_true] at he
    obtain ⟨rfl, rfl⟩ := he
    obtain ⟨bl', off', adk2, capk2, he, f0, f1, f2, hf⟩ := hkh
    simp only [Option.some.injEq, Addr.mk.injEq, and_true] at he
    obtain ⟨rfl, rfl⟩ := he
    obtain ⟨x, hx⟩ : ∃ x, x = needB need v a := ⟨_, rfl⟩
    obtain ⟨y, hy⟩ : ∃ y, y = needB need v b := ⟨_, rfl⟩
    obtain ⟨z, hz2⟩ : ∃ z, z = needB need v d := ⟨_, rfl⟩
    have HV : Hid (needB need v t = (x || (y && z))) := by rw [hx, hy, hz2]; unfold Hid; conv => lhs; unfold needB; rw [needG_three hk3, if_pos ho]
    rw [← hx] at hc
    rw [← hy] at hd
    rw [← hz2] at hf
    have HC := mkHid hc
    have HD := mkHid hd
    have HF := mkHid hf
    have e0 := fun W (h : Below w.heap.size w W) => (h.cell (cell_lt c0)).trans c0
    have e1 := fun W (h : Below w.heap.size w W) => (h.cell (cell_lt c1)).trans c1
    have e2 := fun W (h : Below w.heap.size w W) => (h.cell (cell_lt c2)).trans c2
    have g0 := fun W (h : Below w.heap.size w W) => (h.cell (cell_lt d0)).trans d0
    have g1 := fun W (h : Below w.heap.size w W) => (h.cell (cell_lt d1)).trans d1
    have g2 := fun W (h : Below w.heap.size w W) => (h.cell (cell_lt d2)).trans d2
    have i0 := fun W (h : Below w.heap.size w W) => (h.cell (cell_lt f0)).trans f0
    have i1 := fun W (h : Below w.heap.size w W) => (h.cell (cell_lt f1)).trans f1
    have i2 := fun W (h : Below w.heap.size w W) => (h.cell (cell_lt f2)).trans f2
    simp only [Nat.zero_mul, Nat.add_zero, Nat.one_mul] at e0 e1 e2 g0 g1 g2 i0 i1 i2
    have HE := mkHid (And.intro e0 (And.intro e1 e2))
    have HG := mkHid (And.intro g0 (And.intro g1 g2))
    have HI := mkHid (And.intro i0 (And.intro i1 i2))
    rw [HV.out]
    rw [hl3] at HBX ⊢
    rw [ho] at HBX ⊢
    have HX : Hid ((w.alloc (.cells #[.int .i64 10, .int .i64 t.num, .slice (some ⟨bl, off, none⟩) 3 cap] 31)).heap[w.heap.size]? = some (.cells #[.int .i64 10, .int .i64 t.num, .slice (some ⟨bl, off, none⟩) 3 cap] 31)) := Deep.blk_alloc_new _ _
    have HZ : Hid (w.heap.size < (w.alloc (.cells #[.int .i64 10, .int .i64 t.num, .slice (some ⟨bl, off, none⟩) 3 cap] 31)).heap.size) := by rw [Hid, Deep.nblk_alloc]; omega
    have k0 := HE.out.1 _ HBX.out
    have k1 := HE.out.2.1 _ HBX.out
    have k2 := HE.out.2.2 _ HBX.out
    clear hk3 hl3 c0 c1 c2 d0 d1 d2 f0 f1 f2 hc hd hf e0 e1 e2 g0 g1 g2 i0 i1 i2 ho hx hy hz2
    cases x with
    | true =>
      rw [Bool.true_or]
      go_enter Try.func57, Try.ntmps57
      go_wp2_with fail
      refine (HC.out _ HBX.out).mono ?_
      rintro e w1 ⟨rfl, hb1⟩
      have HB1 : Hid (Below w.heap.size w w1) := HBX.out.trans (hb1.mono HBX.out.size)
      clear hb1 k0 k1 k2
      go_wp2_with fail
      go_ret
      exact ⟨rfl, HB1.out⟩
    | false =>
      rw [Bool.false_or]
      cases y with
      | false =>
        rw [Bool.false_and]
        go_enter Try.func57, Try.ntmps57
        go_wp2_with fail
        refine (HC.out _ HBX.out).mono ?_
        rintro e w1 ⟨rfl, hb1⟩
        have HB1 : Hid (Below w.heap.size w w1) := HBX.out.trans (hb1.mono HBX.out.size)
        have HX1 : Hid (w1.heap[w.heap.size]? = some (.cells #[.int .i64 10, .int .i64 t.num, .slice (some ⟨bl, off, none⟩) 3 cap] 31)) := (hb1.block _ HZ.out).trans HX.out
        have x2 := cell_of_blk HX1.out 2 _ rfl
        have l0 := HG.out.1 _ HB1.out
        have l1 := HG.out.2.1 _ HB1.out
        have l2 := HG.out.2.2 _ HB1.out
        have HZ1 : Hid (w.heap.size < w1.heap.size) := Nat.lt_of_lt_of_le HZ.out hb1.size
        clear hb1 k0 k1 k2
        go_wp2_with fail
        refine (HD.out _ HB1.out).mono ?_
        rintro e w2 ⟨rfl, hb2⟩
        have HB2 : Hid (Below w.heap.size w w2) := HB1.out.trans (hb2.mono HB1.out.size)
        have y2 := cell_of_blk ((hb2.block _ HZ1.out).trans HX1.out) 2 _ rfl
        have m0 := HI.out.1 _ HB2.out
        have m1 := HI.out.2.1 _ HB2.out
        have m2 := HI.out.2.2 _ HB2.out
        clear hb2 l0 l1 l2 x2 m0 m1 m2 y2
        go_wp2_with fail
        go_ret
        exact ⟨rfl, HB2.out⟩
      | true =>
        rw [Bool.true_and]
        go_enter Try.func57, Try.ntmps57
        go_wp2_with fail
        refine (HC.out _ HBX.out).mono ?_
        rintro e w1 ⟨rfl, hb1⟩
        have HB1 : Hid (Below w.heap.size w w1) := HBX.out.trans (hb1.mono HBX.out.size)
        have HX1 : Hid (w1.heap[w.heap.size]? = some (.cells #[.int .i64 10, .int .i64 t.num, .slice (some ⟨bl, off, none⟩) 3 cap] 31)) := (hb1.block _ HZ.out).trans HX.out
        have x2 := cell_of_blk HX1.out 2 _ rfl
        have l0 := HG.out.1 _ HB1.out
        have l1 := HG.out.2.1 _ HB1.out
        have l2 := HG.out.2.2 _ HB1.out
        have HZ1 : Hid (w.heap.size < w1.heap.size) := Nat.lt_of_lt_of_le HZ.out hb1.size
        clear hb1 k0 k1 k2
        go_wp2_with fail
        refine (HD.out _ HB1.out).mono ?_
        rintro e w2 ⟨rfl, hb2⟩
        have HB2 : Hid (Below w.heap.size w w2) := HB1.out.trans (hb2.mono HB1.out.size)
        have y2 := cell_of_blk ((hb2.block _ HZ1.out).trans HX1.out) 2 _ rfl
        have m0 := HI.out.1 _ HB2.out
        have m1 := HI.out.2.1 _ HB2.out
        have m2 := HI.out.2.2 _ HB2.out
        clear hb2 l0 l1 l2 x2
        go_wp2_with fail
        refine (HF.out _ HB2.out).mono ?_
        rintro e w3 ⟨rfl, hb3⟩
        have HB3 : Hid (Below w.heap.size w w3) := HB2.out.trans (hb3.mono HB2.out.size)
        clear hb3 m0 m1 m2 y2
        go_wp2_with fail
        go_ret
        exact ⟨rfl, HB3.out⟩

theorem needs_calls (need : List (List Bool)) (v : Int) (t : Tr) (hsh : ShE t) (hz : szT t ≤ 1099511627776) : ImSaid need v t := by
  have key : ∀ (n : Nat) (t : Tr), szT t ≤ n → szT t ≤ 1099511627776 → ShE t → ImSaid need v t := by
    intro n
    induction n with
    | zero => intro t h0 h1 h2; exact needs_step need v t h2 h1 fun x hx => by omega
    | succ n ih => intro t h0 h1 h2; exact needs_step need v t h2 h1 fun x hx hsx => ih x (by omega) (by omega) hsx
  exact key _ t (Nat.le_refl _) hz hsh

set_option maxHeartbeats 400000 in
theorem exprFits_calls (t : Tr) (c : Value) (w : World) (hk : In w t.kids c) :
    Calls Try.prog 56 #[.agg #[.int .i64 t.op, .int .i64 t.num, c]] w fun e w' => e = .returned (.bool (validB t 4 6)) ∧ Below w.heap.size w w' := by
  have HK : Hid (In w t.kids c) := hk
  obtain ⟨ad, cap, rfl, -, -, -⟩ := hk
  go_enter Try.func56, Try.ntmps56
  go_wp2_with fail
  refine (implValid_calls t 4 6 _ _ (HK.out.next (box_below _ _))).mono ?_
  rintro e w1 ⟨rfl, hb1⟩
  obtain ⟨-, -, -, -, HB1⟩ := box_after hb1
  have HB1 : Hid (Below w.heap.size w w1) := HB1
  clear hb1
  go_wp2_with fail
  go_ret
  exact ⟨rfl, HB1.out⟩

set_option maxHeartbeats 400000 in
theorem implStrictIn_calls (t : Tr) (v : Int) (ne : List (List Bool)) (c p : Value) (w : World) (hk : InP w t.kids c) (hn : NIn w ne p) (ht : I64 t.op ∧ I64 t.num) (hz : szT t ≤ 1099511627776) :
    Calls Try.prog 14 #[.agg #[.int .i64 t.op, .int .i64 t.num, c], .int .i64 v, p] w fun e w' => e = .returned (.bool (strictO t v ne)) ∧ Below w.heap.size w w' := by
  have HK := mkHid hk
  have HN := mkHid hn
  have HT := mkHid ht
  have HZ := mkHid hz
  obtain ⟨ad, cap, rfl, -, -, -⟩ := hk
  obtain ⟨adp, capp, rfl, hpl, hpm, -⟩ := hn
  unfold maxLen at hpm
  have HBX : Hid (Below w.heap.size w (w.alloc (.cells #[.int .i64 t.op, .int .i64 t.num, .slice ad t.kids.length cap] 31))) := box_below _ _
  have HX : Hid ((w.alloc (.cells #[.int .i64 t.op, .int .i64 t.num, .slice ad t.kids.length cap] 31)).heap[w.heap.size]? = some (.cells #[.int .i64 t.op, .int .i64 t.num, .slice ad t.kids.length cap] 31)) := Deep.blk_alloc_new _ _
  have HXZ : Hid (w.heap.size < (w.alloc (.cells #[.int .i64 t.op, .int .i64 t.num, .slice ad t.kids.length cap] 31)).heap.size) := by rw [Hid, Deep.nblk_alloc]; omega
  have HAN := mkHid (exprFits_calls t _ _ (HK.out.inP.next HBX.out))
  clear ht hz hpl hpm
  cases hv : validB t 4 6 with
  | false =>
    have HV : Hid (strictO t v ne = false) := by unfold Hid strictO; rw [hv]; rfl
    rw [HV.out]
    rw [hv] at HAN
    clear hv
    go_enter Try.func14, Try.ntmps14
    go_wp2_with fail
    refine HAN.out.mono ?_
    rintro e w1 ⟨rfl, hb1⟩
    have HB1 : Hid (Below w.heap.size w w1) := HBX.out.trans (hb1.mono HBX.out.size)
    clear hb1
    go_wp2_with fail
    go_ret
    exact ⟨rfl, HB1.out⟩
  | true =>
    have HSH := mkHid (ShE.of_valid hv)
    rw [hv] at HAN
    by_cases hl : ne.length ≤ 6
    · have HV : Hid (strictO t v ne = needB ne v t) := by unfold Hid strictO; rw [hv, decide_eq_true hl]; rfl
      rw [HV.out]
      clear hv
      go_enter Try.func14, Try.ntmps14
      go_wp2_with fail
      refine HAN.out.mono ?_
      rintro e w1 ⟨rfl, hb1⟩
      have HB1 : Hid (Below w.heap.size w w1) := HBX.out.trans (hb1.mono HBX.out.size)
      have hX := (hb1.block _ HXZ.out).trans HX.out
      have x0 := cell_of_blk hX 0 _ rfl
      have x1 := cell_of_blk hX 1 _ rfl
      have x2 := cell_of_blk hX 2 _ rfl
      clear hb1 hX
      go_wp2_with fail
      refine (needs_calls ne v t HSH.out HZ.out _ _ _ (HK.out.nextP HB1.out) (HN.out.next HB1.out) HT.out).mono ?_
      rintro e w2 ⟨rfl, hb2⟩
      have HB2 : Hid (Below w.heap.size w w2) := HB1.out.trans (hb2.mono HB1.out.size)
      clear hb2 x0 x1 x2
      go_wp2_with fail
      go_ret
      exact ⟨rfl, HB2.out⟩
    · have HV : Hid (strictO t v ne = false) := by unfold Hid strictO; rw [hv, decide_eq_false hl]; rfl
      rw [HV.out]
      clear hv
      go_enter Try.func14, Try.ntmps14
      go_wp2_with fail
      refine HAN.out.mono ?_
      rintro e w1 ⟨rfl, hb1⟩
      have HB1 : Hid (Below w.heap.size w w1) := HBX.out.trans (hb1.mono HBX.out.size)
      clear hb1
      go_wp2_with fail
      go_ret
      exact ⟨rfl, HB1.out⟩
end Go.Proofs.Ytocnkjicmchbdaa
