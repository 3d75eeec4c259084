/-
  THE PROGRAM's needs, callNeeds AND StrictIn: which variables an expression needs; nothing that was there is changed.
-/
import Derived.Test.YtpkephkgaflklaaMgNeedLess6
import Derived.Test.YtpkephkgaflklaaMgNeedLess4
import Derived.Test.YtpkephkgaflklaaMgNeedLess7
import Derived.Test.YtpkephkgaflklaaMgNeedLess1
import Derived.Test.YtpkephkgaflklaaProg
import Derived.Test.YtpkephkgaflklaaMgNeedLess2
import Derived.Deep.DeepMust
namespace Go.Proofs.Ytpkephkgaflklaa
set_option linter.unusedVariables false
set_option linter.unusedSimpArgs false
open Go.RowKit

/-- what l9In does at a tree -/
def ImSaid (need : List (List Bool)) (v : Int) (t : Tr) : Prop := ∀ (c p : Value) (w : World), InP w t.kids c → NIn w need p → I64 t.op ∧ I64 t.num →
  Calls Try.prog 66 #[.agg #[.int .i64 t.op, .int .i64 t.num, c], .int .i64 v, p] w fun e w' => e = .returned (.bool (needB need v t)) ∧ Below w.heap.size w w'

/-- an argument, in its cells -/
theorem cd_atP {w : World} {lo : Nat} {l : List Cd} {va : Value} (hrow : CdRow w lo l va) (hl : ∀ d ∈ l, TrOn w (Pl w) d.1 d.2.1 d.2.2.1 d.2.2.2) (j : Nat) (hj : j < l.length) :
    ∃ g cap cv, va = .slice (some ⟨g, 0, none⟩) l.length cap ∧ l.length ≤ cap ∧ w.cell? ⟨g, j * 3, none⟩ = some (.int .i64 l[j].1.op) ∧ w.cell? ⟨g, j * 3 + 1, none⟩ = some (.int .i64 l[j].1.num) ∧ w.cell? ⟨g, j * 3 + 2, none⟩ = some cv ∧ InP w l[j].1.kids cv ∧ I64 l[j].1.op ∧ I64 l[j].1.num := by
  rcases hrow with ⟨rfl, -⟩ | ⟨g, cap, f, rfl, -, hc, -, hr, hf⟩
  · simp at hj
  obtain ⟨f0, f1, f2⟩ := hf j hj
  obtain ⟨e0, e1, i0, i1, hk⟩ := trOn_iff.1 (hl _ (List.getElem_mem hj))
  refine ⟨g, cap, l[j].2.2.2, rfl, hc, ?_, ?_, ?_, hk, i0, i1⟩
  · rw [hr.cell (by omega), f0, e0]
  · rw [hr.cell (by omega), f1, e1]
  · rw [hr.cell (by omega), f2]

set_option maxRecDepth 100000 in
set_option maxHeartbeats 1600000 in
theorem callNeeds_calls (need : List (List Bool)) (v : Int) (t : Tr) (ad : Option Addr) (cap : Nat) (adp : Option Addr) (capp : Nat) (w : World) (hsh : ShE t) (hz : szT t ≤ 1099511627776) (ih : ∀ x, szT x < szT t → ShE x → ImSaid need v x) (h34 : t.op = 3 ∨ t.op = 4)
    (hk : InP w t.kids (.slice ad t.kids.length cap)) (hn : NIn w need (.slice adp need.length capp)) (ht : I64 t.op ∧ I64 t.num) :
    Calls Try.prog 93 #[.agg #[.int .i64 t.op, .int .i64 t.num, .slice ad t.kids.length cap], .int .i64 v, .slice adp need.length capp] w fun e w' => e = .returned (.bool (needB need v t)) ∧ Below w.heap.size w w' := by
  have HT := mkHid ht
  have HS := mkHid hsh
  have HI := mkHid ih
  have HB0 : Hid (Below w.heap.size w (w.alloc (.cells #[.int .i64 t.op, .int .i64 t.num, .slice ad t.kids.length cap] 31))) := box_below _ _
  have HN0 : Hid (NIn (w.alloc (.cells #[.int .i64 t.op, .int .i64 t.num, .slice ad t.kids.length cap] 31)) need (.slice adp need.length capp)) := hn.next HB0.out
  have HK0 : Hid (InP (w.alloc (.cells #[.int .i64 t.op, .int .i64 t.num, .slice ad t.kids.length cap] 31)) t.kids (.slice ad t.kids.length cap)) := hk.nextP HB0.out
  have HL := mkHid (unwind_calls t _ _ HK0.out HT.out hz)
  have HZ := mkHid hz
  have H34 := mkHid h34
  obtain ⟨r, hr⟩ : ∃ r, r = needB need v t := ⟨_, rfl⟩
  rw [← hr]
  have HR0 := mkHid hr
  clear hsh ih ht hk hn hz h34 hr
  go_enter Try.func93, Try.ntmps93
  go_wp2_with fail
  refine HL.out.mono ?_
  rintro e w1 ⟨F, cf, l, va, rfl, hu, hs, hcd, hb1⟩
  have hsE := hu.shE HS.out
  have hon := hu.on HK0.out HT.out
  have hsm := hu.small
  have hval := needB_call (need := need) (v := v) hu hs
  obtain ⟨ada, capa, hva⟩ := hcd.form
  obtain ⟨adf, capf, rfl, -, -, -⟩ := id hon.1
  obtain ⟨wx, hwx⟩ : ∃ wx, wx = w1.alloc (.cells #[.int .i64 F.op, .int .i64 F.num, .slice adf F.kids.length capf] 31) := ⟨_, rfl⟩
  have hbx : Below w1.heap.size w1 wx := by rw [hwx]; exact box_below _ _
  have hb0x := hb1.trans (hbx.mono hb1.size)
  have HBX : Hid (Below w.heap.size w wx) := HB0.out.trans (hb0x.mono HB0.out.size)
  have HX : Hid (wx.heap[w1.heap.size]? = some (.cells #[.int .i64 F.op, .int .i64 F.num, .slice adf F.kids.length capf] 31)) := by rw [hwx]; exact Deep.blk_alloc_new _ _
  have HK : Hid (InP wx F.kids (.slice adf F.kids.length capf)) := hon.1.nextP hb0x
  have HN : Hid (NIn wx need (.slice adp need.length capp)) := HN0.out.next hb0x
  have HFI : Hid (I64 F.op ∧ I64 F.num) := ⟨hon.2.1, hon.2.2.1⟩
  have HL2 : Hid (∀ d ∈ l.reverse, TrOn wx (Pl wx) d.1 d.2.1 d.2.2.1 d.2.2.2) := fun d hd => (hon.2.2.2.1 d (by simpa using hd)).nextP hb0x
  have HR : Hid (CdRow wx w1.heap.size l.reverse va ∨ True) := Or.inr trivial
  have HR : Hid (CdRow wx (w.alloc (.cells #[.int .i64 t.op, .int .i64 t.num, .slice ad t.kids.length cap] 31)).heap.size l.reverse va) := hcd.keep (Nat.le_refl _) fun k _ hk => hbx.block k hk
  have HIL : Hid (∀ d ∈ l.reverse, ImSaid need v d.1) := by
    intro d hd
    have hd' : d ∈ l := by simpa using hd
    rcases hsm with ⟨rfl, rfl⟩ | ⟨-, h1⟩
    · simp at hd'
    · exact HI.out d.1 (h1 d hd') (hsE.2 d hd')
  have HLL : Hid (l.length ≤ 1099511627776) := by have := hon.2.2.2.2; have := HZ.out; unfold Hid; omega
  have HIF : Hid (F.op ≠ 3 → ImSaid need v F) := by
    intro h3
    rcases hsm with ⟨rfl, rfl⟩ | ⟨h1, -⟩
    · rcases H34.out with h | h
      · exact absurd h h3
      · have ha := hsE.1.ar
        rw [h] at ha
        exact absurd ⟨h, by have : arity 4 = 2 := by decide
                            omega⟩ hs
    · exact HI.out F h1 hsE.1
  have HVAL := mkHid (HR0.out.trans hval)
  by_cases ho : F.op = 3
  case neg =>
    have t3 : (F.op != 3) = true := by simpa using ho
    have HV := mkHid (needG_acc (need := need) (v := v) ho hs (l.reverse.map fun d => needB need v d.1))
    have HFC := mkHid (HIF.out ho)
    have HVV := mkHid (HVAL.out.trans HV.out)
    have hva2 := hva
    rw [List.length_reverse] at hva2
    subst hva2
    clear ho hs hsE hon hsm hval hcd hva hb1 hu
    go_wp2_with fail
    rw [← hwx]
    clear hwx
    refine (HFC.out _ _ _ HK.out HN.out HFI.out).mono ?_
    rintro e w2 ⟨rfl, hb2⟩
    have HB2 : Hid (Below w.heap.size w w2) := HBX.out.trans (hb2.mono HBX.out.size)
    clear hb2
    go_wp2_with fail
    go_ret
    exact ⟨ret_bool HVV.out.symm, HB2.out⟩
  obtain ⟨hn0, hn6⟩ := hsE.1.num ho
  have hkn : F.kids = [] := by
    have ha := hsE.1.ar
    rw [ho] at ha
    exact List.eq_nil_of_length_eq_zero (by have : arity 3 = 0 := by decide
                                            omega)
  obtain ⟨k, hkk⟩ : ∃ k : Nat, F.num = (k : Int) := ⟨F.num.toNat, by omega⟩
  have hk6 : k < 6 := by omega
  have HV := mkHid (needG_fun (need := need) (v := v) ho hkn hkk (l.reverse.map fun d => needB need v d.1))
  have HVC := mkHid (HVAL.out.trans HV.out)
  have t3 : (F.op != 3) = false := by simp [ho]
  obtain ⟨l', hl'⟩ : ∃ l', l' = l.reverse := ⟨_, rfl⟩
  have hll' : l.length = l'.length := by rw [hl', List.length_reverse]
  rw [← hl'] at HL2 HR HIL hva HVC
  rw [hll'] at HLL
  rw [hkk] at HX hwx ⊢
  subst hva
  obtain ⟨_, _, hpe, hpl, hpm, -⟩ := id HN.out
  cases hpe
  unfold maxLen at hpm
  clear hs hsE hon hsm hval hcd hb1 hu hn0 hn6 hkn hkk HV hll' hl' ho HIF HVAL HR0
  generalize hll : l'.length = ll at *
  have hX1 := cell_of_blk HX.out 1 _ rfl
  by_cases hge : need.length ≤ k
  · have hgI : (need.length : Int) ≤ (k : Int) := by omega
    have HV := mkHid (callB_none (bs := l'.map fun d => needB need v d.1) hge)
    have HVV := mkHid (HVC.out.trans HV.out)
    clear hge hpl hpm HLL hll hX1
    go_wp2_with fail
    go_ret
    rw [← hwx]
    exact ⟨ret_bool HVV.out.symm, HBX.out⟩
  have hlt : k < need.length := by omega
  obtain ⟨nb, noff, rv, rfl, hnb, hn0, hrw⟩ := HN.out.at k hlt
  obtain ⟨adr, capr, rfl, hrl, hrm, -⟩ := id hrw
  unfold maxLen at hrm
  have hltI : (k : Int) < (need.length : Int) := by omega
  have n0 := hn0
  rw [hwx] at n0
  by_cases hfew : ll < need[k].length
  · have hfI : (ll : Int) < (need[k].length : Int) := by omega
    have HV := mkHid (callB_few (bs := l'.map fun d => needB need v d.1) hlt (by rw [List.length_map, hll]; exact hfew))
    have HVV := mkHid (HVC.out.trans HV.out)
    generalize need[k].length = m at *
    clear hge hfew hrl hrw hnb hX1 hn0
    go_wp2_with fail
    go_ret
    rw [← hwx]
    exact ⟨ret_bool HVV.out.symm, HBX.out⟩
  have HV := mkHid (callB_some (bs := l'.map fun d => needB need v d.1) hlt (by rw [List.length_map, hll]; omega))
  obtain ⟨row, hrow⟩ : ∃ row, row = need[k] := ⟨_, rfl⟩
  rw [← hrow] at hfew n0 hn0 hrw hrl HV
  have HVV := mkHid (HVC.out.trans HV.out)
  have HRW := mkHid hrw
  have hrl2 : row.length ≤ ll := by omega
  have hfI : (row.length : Int) ≤ (ll : Int) := by omega
  have d1 : decide (need.length ≤ k) = false := by simpa using hlt
  have d2 : decide (ll < row.length) = false := by simpa using hrl2
  clear hge hfew hrow hrw hnb hn0 hX1
  go_wp2_with fail
  rw [← hwx]
  clear n0
  go_loopw [47] (fun i wr => ∃ j : Nat, j ≤ row.length ∧ i = .int .i64 j ∧ anyTo row (l'.map fun d => needB need v d.1) j = false ∧ Below wx.heap.size wx wr) (fun i _ => row.length - (intOf i).toNat)
  case atStart => exact ⟨0, Nat.zero_le _, rfl, anyTo_zero _ _, Below.refl _ _⟩
  case round =>
    obtain ⟨j, hj, rfl, hany, hb⟩ := hrel
    have HA := mkHid hany
    have HBW : Hid (Below w.heap.size w wr) := HBX.out.trans (hb.mono HBX.out.size)
    have HB := mkHid hb
    clear hany hb
    by_cases hjl : j < row.length
    · obtain ⟨rb, roff, rfl, hrb, hr0⟩ := HRW.out.at j hjl
      obtain ⟨b, hbe⟩ : ∃ b, b = row[j] := ⟨_, rfl⟩
      rw [← hbe] at hr0
      have r0 := (HB.out.cell (cell_lt hr0)).trans hr0
      obtain ⟨ga, ca, cv, hea, hcl, a0', a1', a2', hka, hia, hin⟩ := cd_atP HR.out HL2.out j (by omega)
      simp only [Value.slice.injEq] at hea
      obtain ⟨rfl, -, rfl⟩ := hea
      have a0 := (HB.out.cell (cell_lt a0')).trans a0'
      have a1 := (HB.out.cell (cell_lt a1')).trans a1'
      have a2 := (HB.out.cell (cell_lt a2')).trans a2'
      have HC := mkHid (HIL.out l'[j] (List.getElem_mem _))
      have HKA := mkHid hka
      have HIA := mkHid (And.intro hia hin)
      obtain ⟨adx, capx, rfl, -, -, -⟩ := id hka
      obtain ⟨x, hx⟩ : ∃ x, x = l'[j].1 := ⟨_, rfl⟩
      have hjl2 : j < (l'.map fun d => needB need v d.1).length := by rw [List.length_map]; omega
      have HS := mkHid (anyTo_succ row (l'.map fun d => needB need v d.1) j hjl hjl2)
      have HT := mkHid (anyTo_true row (l'.map fun d => needB need v d.1) j hjl hjl2 (by rw [List.length_map]; omega))
      have hmj : (l'.map fun d => needB need v d.1)[j] = needB need v x := by rw [hx, List.getElem_map]
      rw [hmj, ← hbe] at HS HT
      rw [← hx] at HC HKA HIA a0 a1 a2
      obtain ⟨bb, hbb⟩ : ∃ bb, bb = needB need v x := ⟨_, rfl⟩
      have HCC : Hid (∀ W, Below wr.heap.size wr W → Calls Try.prog 66 #[.agg #[.int .i64 x.op, .int .i64 x.num, .slice adx x.kids.length capx], .int .i64 v, .slice (some ⟨nb, noff, none⟩) need.length capp] W fun e w' => e = .returned (.bool bb) ∧ Below W.heap.size W w') := fun W hW => by
        rw [hbb]
        exact HC.out _ _ W ((HKA.out.nextP HB.out).nextP hW) ((HN.out.next HB.out).next hW) HIA.out
      rw [← hbb] at HS HT
      clear hbe hr0 hka hia hin hx hmj hbb a0' a1' a2' hrb HC
      have hjaI : (j : Int) < (ll : Int) := by omega
      cases b with
      | false =>
        have HS2 : Hid (anyTo row (l'.map fun d => needB need v d.1) (j + 1) = false) := by rw [Hid, HS.out, HA.out]; rfl
        clear a0 a1 a2
        go_wp2_with fail
        go_roundw
        case rel => exact ⟨j + 1, by omega, by go_num, HS2.out, HB.out⟩
        case measure => simp [intOf]; omega
      | true =>
        go_wp2_with fail
        refine (HCC.out _ (Below.refl _ _)).mono ?_
        rintro e w1 ⟨rfl, hb1⟩
        have HB1 := mkHid (HB.out.trans (hb1.mono HB.out.size))
        have HBW1 : Hid (Below w.heap.size w w1) := HBW.out.trans (hb1.mono HBW.out.size)
        clear hb1 r0 a0 a1 a2
        cases bb with
        | false =>
          have HS2 : Hid (anyTo row (l'.map fun d => needB need v d.1) (j + 1) = false) := by rw [Hid, HS.out, HA.out]; rfl
          go_wp2_with fail
          go_roundw
          case rel => exact ⟨j + 1, by omega, by go_num, HS2.out, HB1.out⟩
          case measure => simp [intOf]; omega
        | true =>
          have HV2 := mkHid (HT.out (by trivial) (by trivial))
          go_wp2_with fail
          go_ret
          exact ⟨ret_bool (HVV.out.trans HV2.out).symm, HBW1.out⟩
    · have hje : j = row.length := by omega
      have HV2 : Hid (((row.zip (l'.map fun d => needB need v d.1)).any fun p => p.1 && p.2) = false) := by rw [Hid, ← anyTo_all _ _ (by rw [List.length_map]; omega), ← hje]; exact HA.out
      clear hje
      go_wp2_with fail
      go_ret
      exact ⟨ret_bool (HVV.out.trans HV2.out).symm, HBW.out⟩

set_option maxRecDepth 100000 in
set_option maxHeartbeats 800000 in
theorem needs_app (need : List (List Bool)) (v : Int) (t : Tr) (ad : Option Addr) (cap : Nat) (adp : Option Addr) (capp : Nat) (w : World) (h34 : t.op = 3 ∨ t.op = 4) (hsh : ShE t) (hz : szT t ≤ 1099511627776) (ih : ∀ x, szT x < szT t → ShE x → ImSaid need v x)
    (hk : InP w t.kids (.slice ad t.kids.length cap)) (hn : NIn w need (.slice adp need.length capp)) (ht : I64 t.op ∧ I64 t.num) :
    Calls Try.prog 66 #[.agg #[.int .i64 t.op, .int .i64 t.num, .slice ad t.kids.length cap], .int .i64 v, .slice adp need.length capp] w fun e w' => e = .returned (.bool (needB need v t)) ∧ Below w.heap.size w w' := by
  have HBX : Hid (Below w.heap.size w (w.alloc (.cells #[.int .i64 t.op, .int .i64 t.num, .slice ad t.kids.length cap] 31))) := box_below _ _
  have HC := mkHid (callNeeds_calls need v t ad cap adp capp _ hsh hz ih h34 (hk.nextP HBX.out) (hn.next HBX.out) ht)
  obtain ⟨r, hr⟩ : ∃ r, r = needB need v t := ⟨_, rfl⟩
  rw [← hr] at HC ⊢
  clear hsh ih ht hk hn hz hr
  rcases h34 with h | h
  all_goals
    rw [h] at HBX HC ⊢
    clear h
    go_enter Try.func66, Try.ntmps66
    go_wp2_with fail
    refine HC.out.mono ?_
    rintro e w1 ⟨rfl, hb1⟩
    have HB1 : Hid (Below w.heap.size w w1) := HBX.out.trans (hb1.mono HBX.out.size)
    clear hb1
    go_wp2_with fail
    go_ret
    exact ⟨rfl, HB1.out⟩

set_option maxRecDepth 100000 in
set_option maxHeartbeats 800000 in
theorem needs_step (need : List (List Bool)) (v : Int) (t : Tr) (hsh : ShE t) (hz : szT t ≤ 1099511627776) (ih : ∀ x, szT x < szT t → ShE x → ImSaid need v x) : ImSaid need v t := by
  intro c p w hk hn ht
  have HK := mkHid hk
  have HN := mkHid hn
  have HT := mkHid ht
  have HS := mkHid hsh
  have HI := mkHid ih
  obtain ⟨ad, cap, rfl, -, -, -⟩ := hk
  obtain ⟨adp, capp, rfl, -, -, -⟩ := hn
  have HBX : Hid (Below w.heap.size w (w.alloc (.cells #[.int .i64 t.op, .int .i64 t.num, .slice ad t.kids.length cap] 31))) := box_below _ _
  have kid : ∀ (i : Nat) (hi : i < t.kids.length), ∃ bl off adk capk, ad = some ⟨bl, off, none⟩ ∧ w.cell? ⟨bl, off + i * 3, none⟩ = some (.int .i64 t.kids[i].op) ∧ w.cell? ⟨bl, off + i * 3 + 1, none⟩ = some (.int .i64 t.kids[i].num) ∧ w.cell? ⟨bl, off + i * 3 + 2, none⟩ = some (.slice adk t.kids[i].kids.length capk) ∧
      ∀ W, Below w.heap.size w W → Calls Try.prog 66 #[.agg #[.int .i64 t.kids[i].op, .int .i64 t.kids[i].num, .slice adk t.kids[i].kids.length capk], .int .i64 v, .slice adp need.length capp] W fun e w' => e = .returned (.bool (needB need v t.kids[i])) ∧ Below W.heap.size W w' := by
    intro i hi
    obtain ⟨_, _, he, -, -, hr⟩ := HK.out
    cases he
    rcases hr with hnil | ⟨bl, off, rfl, -, hr⟩
    · rw [hnil] at hi; simp at hi
    obtain ⟨a, b, r, e0, e1, e2, htr⟩ := RowOn.at t.kids off i hi hr
    obtain ⟨rfl, rfl, i0, i1, hkk⟩ := trOn_iff.1 htr
    obtain ⟨adk, capk, rfl, -, -, -⟩ := id hkk
    exact ⟨bl, off, adk, capk, rfl, e0, e1, e2, fun W hW => HI.out _ (by have := szT_lt_szL t.kids i hi; rw [szT_eq t]; exact this) (HS.out.kid (List.getElem_mem hi)) _ _ W (hkk.nextP hW) (HN.out.next hW) ⟨i0, i1⟩⟩
  have HKI := mkHid kid
  have HAP : Hid ((t.op = 3 ∨ t.op = 4) → Calls Try.prog 66 #[.agg #[.int .i64 t.op, .int .i64 t.num, .slice ad t.kids.length cap], .int .i64 v, .slice adp need.length capp] w fun e w' => e = .returned (.bool (needB need v t)) ∧ Below w.heap.size w w') :=
    fun h => needs_app need v t ad cap adp capp w h HS.out hz HI.out HK.out HN.out HT.out
  clear hsh ih ht kid
  rcases HS.out.cases with ⟨ho, hk0⟩ | ⟨ho, a, hk1⟩ | ⟨ho, a, b, hk2⟩ | ⟨ho, a, b, d, hk3⟩
  · by_cases h1 : t.op = 1
    · have t1 : (t.op == 1) = true := by simpa using h1
      have HV : Hid (needB need v t = decide (t.num = v)) := by unfold Hid needB; rw [needG_leaf hk0, if_pos h1]
      clear h1 ho hk0
      go_enter Try.func66, Try.ntmps66
      go_wp2_with fail
      go_ret
      exact ⟨ret_bool (by rw [HV.out]; rfl), HBX.out⟩
    by_cases h2 : t.op = 2
    · have HV : Hid (needB need v t = false) := by unfold Hid needB; rw [needG_leaf hk0, if_neg h1, if_neg (by omega)]
      have t2 : t.op = 2 := h2
      rw [HV.out, t2]
      rw [t2] at HBX
      clear h1 ho hk0 h2 t2
      go_enter Try.func66, Try.ntmps66
      go_wp2_with fail
      go_ret
      exact ⟨rfl, HBX.out⟩
    have h3 : t.op = 3 := by omega
    exact HAP.out (Or.inl h3)
  · have hl1 : t.kids.length = 1 := by rw [hk1]; rfl
    have hkf := HKI.out 0 (by omega)
    simp only [hk1, List.getElem_cons_zero] at hkf
    obtain ⟨bl, off, adk, capk, rfl, c0, c1, c2, hc⟩ := hkf
    have HC := mkHid hc
    have HV : Hid (needB need v t = needB need v a) := by unfold Hid; conv => lhs; unfold needB; rw [needG_one hk1, if_pos ho]
    have k0 := old_cell c0 (.cells #[.int .i64 t.op, .int .i64 t.num, .slice (some ⟨bl, off, none⟩) 1 cap] 31)
    have k1 := old_cell c1 (.cells #[.int .i64 t.op, .int .i64 t.num, .slice (some ⟨bl, off, none⟩) 1 cap] 31)
    have k2 := old_cell c2 (.cells #[.int .i64 t.op, .int .i64 t.num, .slice (some ⟨bl, off, none⟩) 1 cap] 31)
    rw [HV.out]
    rw [hl1] at HBX ⊢
    simp only [Nat.zero_mul, Nat.add_zero] at k0 k1 k2
    clear hk1 hl1 c0 c1 c2 hc
    rcases ho with ho | ho
    all_goals
      rw [ho] at HBX k0 k1 k2 ⊢
      clear ho
      go_enter Try.func66, Try.ntmps66
      go_wp2_with fail
      refine (HC.out _ HBX.out).mono ?_
      rintro e w1 ⟨rfl, hb1⟩
      have HB1 : Hid (Below w.heap.size w w1) := HBX.out.trans (hb1.mono HBX.out.size)
      clear hb1 k0 k1 k2
      go_wp2_with fail
      go_ret
      exact ⟨rfl, HB1.out⟩
  · by_cases h4 : t.op = 4
    · exact HAP.out (Or.inr h4)
    by_cases h5 : t.op = 5
    · have HV : Hid (needB need v t = false) := by unfold Hid needB; rw [needG_two hk2, if_neg h4, if_neg (by omega)]
      rw [HV.out]
      rw [h5] at HBX ⊢
      clear ho h4 h5 hk2
      go_enter Try.func66, Try.ntmps66
      go_wp2_with fail
      go_ret
      exact ⟨rfl, HBX.out⟩
    have hl2 : t.kids.length = 2 := by rw [hk2]; rfl
    have hkf := HKI.out 0 (by omega)
    have hkg := HKI.out 1 (by omega)
    simp only [hk2, List.getElem_cons_zero, List.getElem_cons_succ] at hkf hkg
    obtain ⟨bl, off, adk, capk, rfl, c0, c1, c2, hc⟩ := hkf
    obtain ⟨bl', off', adk', capk', he, d0, d1, d2, hd⟩ := hkg
    simp only [Option.some.injEq, Addr.mk.injEq, and_true] at he
    obtain ⟨rfl, rfl⟩ := he
    have ho8 : t.op = 8 ∨ t.op = 9 := by omega
    obtain ⟨x, hx⟩ : ∃ x, x = needB need v a := ⟨_, rfl⟩
    obtain ⟨y, hy⟩ : ∃ y, y = needB need v b := ⟨_, rfl⟩
    have HV : Hid (needB need v t = (x || y)) := by rw [hx, hy]; unfold Hid; conv => lhs; unfold needB; rw [needG_two hk2, if_neg h4, if_pos ho8]
    rw [← hx] at hc
    rw [← hy] at hd
    have HC := mkHid hc
    have HD := mkHid hd
    have HB0 := mkHid (Below.refl w.heap.size w)
    have e0 := fun W (h : Below w.heap.size w W) => (h.cell (cell_lt c0)).trans c0
    have e1 := fun W (h : Below w.heap.size w W) => (h.cell (cell_lt c1)).trans c1
    have e2 := fun W (h : Below w.heap.size w W) => (h.cell (cell_lt c2)).trans c2
    have g0 := fun W (h : Below w.heap.size w W) => (h.cell (cell_lt d0)).trans d0
    have g1 := fun W (h : Below w.heap.size w W) => (h.cell (cell_lt d1)).trans d1
    have g2 := fun W (h : Below w.heap.size w W) => (h.cell (cell_lt d2)).trans d2
    simp only [Nat.zero_mul, Nat.add_zero, Nat.one_mul] at e0 e1 e2 g0 g1 g2
    have HE := mkHid (And.intro e0 (And.intro e1 (And.intro e2 (And.intro g0 (And.intro g1 g2)))))
    rw [HV.out]
    rw [hl2] at HBX ⊢
    have hbx : (w.alloc (.cells #[.int .i64 t.op, .int .i64 t.num, .slice (some ⟨bl, off, none⟩) 2 cap] 31)).heap[w.heap.size]? = some (.cells #[.int .i64 t.op, .int .i64 t.num, .slice (some ⟨bl, off, none⟩) 2 cap] 31) := Deep.blk_alloc_new _ _
    have hbz : w.heap.size < (w.alloc (.cells #[.int .i64 t.op, .int .i64 t.num, .slice (some ⟨bl, off, none⟩) 2 cap] 31)).heap.size := by rw [Deep.nblk_alloc]; omega
    have k0 := HE.out.1 _ HBX.out
    have k1 := HE.out.2.1 _ HBX.out
    have k2 := HE.out.2.2.1 _ HBX.out
    clear hk2 hl2 c0 c1 c2 d0 d1 d2 hc hd e0 e1 e2 g0 g1 g2 ho hx hy h4 h5
    have HX := mkHid hbx
    have HZ := mkHid hbz
    clear hbx hbz
    rcases ho8 with ho | ho
    all_goals
      rw [ho] at HBX k0 k1 k2 HX HZ ⊢
      clear ho
      cases x with
      | true =>
        rw [Bool.true_or]
        go_enter Try.func66, Try.ntmps66
        go_wp2_with fail
        refine (HC.out _ HBX.out).mono ?_
        rintro e w1 ⟨rfl, hb1⟩
        have HB1 : Hid (Below w.heap.size w w1) := HBX.out.trans (hb1.mono HBX.out.size)
        clear hb1 k0 k1 k2
        go_wp2_with fail
        go_ret
        exact ⟨rfl, HB1.out⟩
      | false =>
        rw [Bool.false_or]
        go_enter Try.func66, Try.ntmps66
        go_wp2_with fail
        refine (HC.out _ HBX.out).mono ?_
        rintro e w1 ⟨rfl, hb1⟩
        have HB1 : Hid (Below w.heap.size w w1) := HBX.out.trans (hb1.mono HBX.out.size)
        have x2 := cell_of_blk ((hb1.block _ HZ.out).trans HX.out) 2 _ rfl
        have l0 := HE.out.2.2.2.1 _ HB1.out
        have l1 := HE.out.2.2.2.2.1 _ HB1.out
        have l2 := HE.out.2.2.2.2.2 _ HB1.out
        clear hb1 k0 k1 k2
        go_wp2_with fail
        refine (HD.out _ HB1.out).mono ?_
        rintro e w2 ⟨rfl, hb2⟩
        have HB2 : Hid (Below w.heap.size w w2) := HB1.out.trans (hb2.mono HB1.out.size)
        clear hb2 l0 l1 l2 x2
        go_wp2_with fail
        go_ret
        exact ⟨rfl, HB2.out⟩
  · have hl3 : t.kids.length = 3 := by rw [hk3]; rfl
    have hkf := HKI.out 0 (by omega)
    have hkg := HKI.out 1 (by omega)
    have hkh := HKI.out 2 (by omega)
    simp only [hk3, List.getElem_cons_zero, List.getElem_cons_succ] at hkf hkg hkh
    obtain ⟨bl, off, adk, capk, rfl, c0, c1, c2, hc⟩ := hkf
    obtain ⟨bl', off', adk', capk', he, d0, d1, d2, hd⟩ := hkg
    simp only [Option.some.injEq, Addr.mk.injEq, and_true] at he
    obtain ⟨rfl, rfl⟩ := he
    obtain ⟨bl', off', adk2, capk2, he, f0, f1, f2, hf⟩ := hkh
    simp only [Option.some.injEq, Addr.mk.injEq, and_true] at he
    obtain ⟨rfl, rfl⟩ := he
    obtain ⟨x, hx⟩ : ∃ x, x = needB need v a := ⟨_, rfl⟩
    obtain ⟨y, hy⟩ : ∃ y, y = needB need v b := ⟨_, rfl⟩
    obtain ⟨z, hz2⟩ : ∃ z, z = needB need v d := ⟨_, rfl⟩
    have HV : Hid (needB need v t = (x || (y && z))) := by rw [hx, hy, hz2]; unfold Hid; conv => lhs; unfold needB; rw [needG_three hk3, if_pos ho]
    rw [← hx] at hc
    rw [← hy] at hd
    rw [← hz2] at hf
    have HC := mkHid hc
    have HD := mkHid hd
    have HF := mkHid hf
    have e0 := fun W (h : Below w.heap.size w W) => (h.cell (cell_lt c0)).trans c0
    have e1 := fun W (h : Below w.heap.size w W) => (h.cell (cell_lt c1)).trans c1
    have e2 := fun W (h : Below w.heap.size w W) => (h.cell (cell_lt c2)).trans c2
    have g0 := fun W (h : Below w.heap.size w W) => (h.cell (cell_lt d0)).trans d0
    have g1 := fun W (h : Below w.heap.size w W) => (h.cell (cell_lt d1)).trans d1
    have g2 := fun W (h : Below w.heap.size w W) => (h.cell (cell_lt d2)).trans d2
    have i0 := fun W (h : Below w.heap.size w W) => (h.cell (cell_lt f0)).trans f0
    have i1 := fun W (h : Below w.heap.size w W) => (h.cell (cell_lt f1)).trans f1
    have i2 := fun W (h : Below w.heap.size w W) => (h.cell (cell_lt f2)).trans f2
    simp only [Nat.zero_mul, Nat.add_zero, Nat.one_mul] at e0 e1 e2 g0 g1 g2 i0 i1 i2
    have HE := mkHid (And.intro e0 (And.intro e1 e2))
    have HG := mkHid (And.intro g0 (And.intro g1 g2))
    have HI := mkHid (And.intro i0 (And.intro i1 i2))
    rw [HV.out]
    rw [hl3] at HBX ⊢
    rw [ho] at HBX ⊢
    have HX : Hid ((w.alloc (.cells #[.int .i64 10, .int .i64 t.num, .slice (some ⟨bl, off, none⟩) 3 cap] 31)).heap[w.heap.size]? = some (.cells #[.int .i64 10, .int .i64 t.num, .slice (some ⟨bl, off, none⟩) 3 cap] 31)) := Deep.blk_alloc_new _ _
    have HZ : Hid (w.heap.size < (w.alloc (.cells #[.int .i64 10, .int .i64 t.num, .slice (some ⟨bl, off, none⟩) 3 cap] 31)).heap.size) := by rw [Hid, Deep.nblk_alloc]; omega
    have k0 := HE.out.1 _ HBX.out
    have k1 := HE.out.2.1 _ HBX.out
    have k2 := HE.out.2.2 _ HBX.out
    clear hk3 hl3 c0 c1 c2 d0 d1 d2 f0 f1 f2 hc hd hf e0 e1 e2 g0 g1 g2 i0 i1 i2 ho hx hy hz2
    cases x with
    | true =>
      rw [Bool.true_or]
      go_enter Try.func66, Try.ntmps66
      go_wp2_with fail
      refine (HC.out _ HBX.out).mono ?_
      rintro e w1 ⟨rfl, hb1⟩
      have HB1 : Hid (Below w.heap.size w w1) := HBX.out.trans (hb1.mono HBX.out.size)
      clear hb1 k0 k1 k2
      go_wp2_with fail
      go_ret
      exact ⟨rfl, HB1.out⟩
    | false =>
      rw [Bool.false_or]
      cases y with
      | false =>
        rw [Bool.false_and]
        go_enter Try.func66, Try.ntmps66
        go_wp2_with fail
        refine (HC.out _ HBX.out).mono ?_
        rintro e w1 ⟨rfl, hb1⟩
        have HB1 : Hid (Below w.heap.size w w1) := HBX.out.trans (hb1.mono HBX.out.size)
        have HX1 : Hid (w1.heap[w.heap.size]? = some (.cells #[.int .i64 10, .int .i64 t.num, .slice (some ⟨bl, off, none⟩) 3 cap] 31)) := (hb1.block _ HZ.out).trans HX.out
        have x2 := cell_of_blk HX1.out 2 _ rfl
        have l0 := HG.out.1 _ HB1.out
        have l1 := HG.out.2.1 _ HB1.out
        have l2 := HG.out.2.2 _ HB1.out
        have HZ1 : Hid (w.heap.size < w1.heap.size) := Nat.lt_of_lt_of_le HZ.out hb1.size
        clear hb1 k0 k1 k2
        go_wp2_with fail
        refine (HD.out _ HB1.out).mono ?_
        rintro e w2 ⟨rfl, hb2⟩
        have HB2 : Hid (Below w.heap.size w w2) := HB1.out.trans (hb2.mono HB1.out.size)
        have y2 := cell_of_blk ((hb2.block _ HZ1.out).trans HX1.out) 2 _ rfl
        have m0 := HI.out.1 _ HB2.out
        have m1 := HI.out.2.1 _ HB2.out
        have m2 := HI.out.2.2 _ HB2.out
        clear hb2 l0 l1 l2 x2 m0 m1 m2 y2
        go_wp2_with fail
        go_ret
        exact ⟨rfl, HB2.out⟩
      | true =>
        rw [Bool.true_and]
        go_enter Try.func66, Try.ntmps66
        go_wp2_with fail
        refine (HC.out _ HBX.out).mono ?_
        rintro e w1 ⟨rfl, hb1⟩
        have HB1 : Hid (Below w.heap.size w w1) := HBX.out.trans (hb1.mono HBX.out.size)
        have HX1 : Hid (w1.heap[w.heap.size]? = some (.cells #[.int .i64 10, .int .i64 t.num, .slice (some ⟨bl, off, none⟩) 3 cap] 31)) := (hb1.block _ HZ.out).trans HX.out
        have x2 := cell_of_blk HX1.out 2 _ rfl
        have l0 := HG.out.1 _ HB1.out
        have l1 := HG.out.2.1 _ HB1.out
        have l2 := HG.out.2.2 _ HB1.out
        have HZ1 : Hid (w.heap.size < w1.heap.size) := Nat.lt_of_lt_of_le HZ.out hb1.size
        clear hb1 k0 k1 k2
        go_wp2_with fail
        refine (HD.out _ HB1.out).mono ?_
        rintro e w2 ⟨rfl, hb2⟩
        have HB2 : Hid (Below w.heap.size w w2) := HB1.out.trans (hb2.mono HB1.out.size)
        have y2 := cell_of_blk ((hb2.block _ HZ1.out).trans HX1.out) 2 _ rfl
        have m0 := HI.out.1 _ HB2.out
        have m1 := HI.out.2.1 _ HB2.out
        have m2 := HI.out.2.2 _ HB2.out
        clear hb2 l0 l1 l2 x2
        go_wp2_with fail
        refine (HF.out _ HB2.out).mono ?_
        rintro e w3 ⟨rfl, hb3⟩
        have HB3 : Hid (Below w.heap.size w w3) := HB2.out.trans (hb3.mono HB2.out.size)
        clear hb3 m0 m1 m2 y2
        go_wp2_with fail
        go_ret
        exact ⟨rfl, HB3.out⟩

theorem needs_calls (need : List (List Bool)) (v : Int) (t : Tr) (hsh : ShE t) (hz : szT t ≤ 1099511627776) : ImSaid need v t := by
  have key : ∀ (n : Nat) (t : Tr), szT t ≤ n → szT t ≤ 1099511627776 → ShE t → ImSaid need v t := by
    intro n
    induction n with
    | zero => intro t h0 h1 h2; exact needs_step need v t h2 h1 fun x hx => by omega
    | succ n ih => intro t h0 h1 h2; exact needs_step need v t h2 h1 fun x hx hsx => ih x (by omega) (by omega) hsx
  exact key _ t (Nat.le_refl _) hz hsh

set_option maxHeartbeats 400000 in
theorem exprFits_calls (t : Tr) (c : Value) (w : World) (hk : In w t.kids c) :
    Calls Try.prog 52 #[.agg #[.int .i64 t.op, .int .i64 t.num, c]] w fun e w' => e = .returned (.bool (validB t 4 6)) ∧ Below w.heap.size w w' := by
  have HK : Hid (In w t.kids c) := hk
  obtain ⟨ad, cap, rfl, -, -, -⟩ := hk
  go_enter Try.func52, Try.ntmps52
  go_wp2_with fail
  refine (implValid_calls t 4 6 _ _ (HK.out.next (box_below _ _))).mono ?_
  rintro e w1 ⟨rfl, hb1⟩
  obtain ⟨-, -, -, -, HB1⟩ := box_after hb1
  have HB1 : Hid (Below w.heap.size w w1) := HB1
  clear hb1
  go_wp2_with fail
  go_ret
  exact ⟨rfl, HB1.out⟩

end Go.Proofs.Ytpkephkgaflklaa
/-
  THE PROGRAM's sameNeed (slices.EqualFunc, slices.Equal), hasArity, AND slices.EqualFunc of it.
-/
namespace Go.Proofs.Ytpkephkgaflklaa
set_option linter.unusedVariables false
set_option linter.unusedSimpArgs false
open Go.RowKit

set_option maxHeartbeats 800000 in
theorem equalB_calls (xs ys : List Bool) (u v : Value) (w : World) (hu : BIn w xs u) (hv : BIn w ys v) :
    Calls Try.prog 63 #[u, v] w fun e w' => e = .returned (.bool (decide (xs = ys))) ∧ Below w.heap.size w w' := by
  have HU : Hid (BIn w xs u) := hu
  have HV : Hid (BIn w ys v) := hv
  obtain ⟨ad, cap, rfl, hl, hm, -⟩ := hu
  obtain ⟨ad', cap', rfl, hl', hm', -⟩ := hv
  unfold maxLen at hm hm'
  obtain ⟨r, hr⟩ : ∃ r, r = decide (xs = ys) := ⟨_, rfl⟩
  rw [← hr]
  have HR := mkHid hr
  clear hr
  by_cases hlen : xs.length = ys.length
  · have t1 : ((xs.length : Int) != ys.length) = false := by simp [hlen]
    have HL : Hid (xs.length = ys.length) := hlen
    clear hlen
    go_enter Try.func63, Try.ntmps63
    go_wp2_with fail
    go_loopw [13] (fun i wr => ∃ k : Nat, k ≤ xs.length ∧ i = .int .i64 k ∧ (∀ j (h : j < xs.length) (h' : j < ys.length), j < k → xs[j] = ys[j]) ∧ ∃ n, wr = w.drewN n) (fun i _ => xs.length - (intOf i).toNat)
    case atStart => exact ⟨0, Nat.zero_le _, rfl, fun j _ _ h => absurd h (by omega), 0, rfl⟩
    case round =>
      obtain ⟨k, hk, rfl, hall, n, rfl⟩ := hrel
      have HA := mkHid hall
      clear hall
      by_cases hlt : k < xs.length
      · have hlt2 : k < ys.length := by have := HL.out; omega
        obtain ⟨bl, off, rfl, -, c0⟩ := HU.out.at k hlt
        obtain ⟨bl', off', rfl, -, d0⟩ := HV.out.at k hlt2
        obtain ⟨x, hx⟩ : ∃ x, x = xs[k] := ⟨_, rfl⟩
        obtain ⟨y, hy⟩ : ∃ y, y = ys[k] := ⟨_, rfl⟩
        rw [← hx] at c0
        rw [← hy] at d0
        have HX := mkHid hx
        have HY := mkHid hy
        clear hx hy
        by_cases hxy : x = y
        · subst hxy
          have t2 : (x != x) = false := by simp
          have HA2 : Hid (∀ j (h : j < xs.length) (h' : j < ys.length), j < k + 1 → xs[j] = ys[j]) := by
            intro j h h' hj
            by_cases e : j = k
            · subst e; rw [← HX.out, ← HY.out]
            · exact HA.out j h h' (by omega)
          go_wp2_with fail
          go_quiet (fail)
          go_wp2_with fail
          go_roundw
          case rel => exact ⟨k + 1, by omega, by go_num, HA2.out, _, rfl⟩
          case measure => simp [intOf]; omega
        · have HV2 : Hid (r = false) := HR.out.trans (decide_eq_false fun h => hxy (by rw [HX.out, HY.out]; exact List.getElem_of_eq h hlt))
          obtain ⟨rfl, rfl⟩ | ⟨rfl, rfl⟩ : (x = true ∧ y = false) ∨ (x = false ∧ y = true) := by cases x <;> cases y <;> simp_all
          all_goals
            clear hxy
            go_wp2_with fail
            go_quiet (fail)
            go_wp2_with fail
            go_ret
            exact ⟨ret_bool HV2.out.symm, below_drewN (below_drewN (Below.refl _ _) _) _⟩
      · have HV2 : Hid (r = true) := HR.out.trans (decide_eq_true (List.ext_getElem HL.out fun j h h' => HA.out j h h' (by omega)))
        go_wp2_with fail
        go_ret
        exact ⟨ret_bool HV2.out.symm, below_drewN (Below.refl _ _) _⟩
  · have t1 : ((xs.length : Int) != ys.length) = true := by simp; omega
    have HV2 : Hid (r = false) := HR.out.trans (decide_eq_false fun h => hlen (by rw [h]))
    clear hlen
    go_enter Try.func63, Try.ntmps63
    go_wp2_with fail
    go_ret
    exact ⟨ret_bool HV2.out.symm, Below.refl _ _⟩

set_option maxHeartbeats 800000 in
theorem eqFuncN_calls (a b : List (List Bool)) (u v : Value) (w : World) (hu : NIn w a u) (hv : NIn w b v) :
    Calls Try.prog 62 #[u, v, .func (.func 63) #[] #[]] w fun e w' => e = .returned (.bool (decide (a = b))) ∧ Below w.heap.size w w' := by
  have HU : Hid (NIn w a u) := hu
  have HV : Hid (NIn w b v) := hv
  obtain ⟨ad, cap, rfl, hl, hm, -⟩ := hu
  obtain ⟨ad', cap', rfl, hl', hm', -⟩ := hv
  unfold maxLen at hm hm'
  obtain ⟨r, hr⟩ : ∃ r, r = decide (a = b) := ⟨_, rfl⟩
  rw [← hr]
  have HR := mkHid hr
  clear hr
  by_cases hlen : a.length = b.length
  · have t1 : ((a.length : Int) != b.length) = false := by simp [hlen]
    have HL : Hid (a.length = b.length) := hlen
    clear hlen
    go_enter Try.func62, Try.ntmps62
    go_wp2_with fail
    go_loopw [17] (fun i wr => ∃ k : Nat, k ≤ a.length ∧ i = .int .i64 k ∧ (∀ j (h : j < a.length) (h' : j < b.length), j < k → a[j] = b[j]) ∧ Below w.heap.size w wr) (fun i _ => a.length - (intOf i).toNat)
    case atStart => exact ⟨0, Nat.zero_le _, rfl, fun j _ _ h => absurd h (by omega), Below.refl _ _⟩
    case round =>
      obtain ⟨k, hk, rfl, hall, hb⟩ := hrel
      have HA := mkHid hall
      have HB := mkHid hb
      clear hall hb
      by_cases hlt : k < a.length
      · have hlt2 : k < b.length := by have := HL.out; omega
        obtain ⟨bl, off, r1, rfl, -, c0, hk1⟩ := (HU.out.next HB.out).at k hlt
        obtain ⟨bl', off', r2, rfl, -, d0, hk2⟩ := (HV.out.next HB.out).at k hlt2
        obtain ⟨ad1, cap1, rfl, -, -, -⟩ := id hk1
        obtain ⟨ad2, cap2, rfl, -, -, -⟩ := id hk2
        obtain ⟨x, hx⟩ : ∃ x, x = a[k] := ⟨_, rfl⟩
        obtain ⟨y, hy⟩ : ∃ y, y = b[k] := ⟨_, rfl⟩
        rw [← hx] at c0 hk1
        rw [← hy] at d0 hk2
        have HX := mkHid hx
        have HY := mkHid hy
        have HQ := mkHid (equalB_calls x y _ _ wr hk1 hk2)
        clear hx hy hk1 hk2
        go_wp2_with fail
        refine HQ.out.mono ?_
        rintro e w1 ⟨rfl, hb1⟩
        have HB1 : Hid (Below w.heap.size w w1) := HB.out.trans (hb1.mono HB.out.size)
        clear hb1 c0 d0
        by_cases hxy : x = y
        · have HA2 : Hid (∀ j (h : j < a.length) (h' : j < b.length), j < k + 1 → a[j] = b[j]) := by
            intro j h h' hj
            by_cases e : j = k
            · subst e; rw [← HX.out, ← HY.out, hxy]
            · exact HA.out j h h' (by omega)
          rw [decide_eq_true hxy]
          clear hxy
          go_wp2_with fail
          go_roundw
          case rel => exact ⟨k + 1, by omega, by go_num, HA2.out, HB1.out⟩
          case measure => simp [intOf]; omega
        · have HV2 : Hid (r = false) := HR.out.trans (decide_eq_false fun h => hxy (by rw [HX.out, HY.out]; exact List.getElem_of_eq h hlt))
          rw [decide_eq_false hxy]
          clear hxy
          go_wp2_with fail
          go_ret
          exact ⟨ret_bool HV2.out.symm, HB1.out⟩
      · have HV2 : Hid (r = true) := HR.out.trans (decide_eq_true (List.ext_getElem HL.out fun j h h' => HA.out j h h' (by omega)))
        go_wp2_with fail
        go_ret
        exact ⟨ret_bool HV2.out.symm, HB.out⟩
  · have t1 : ((a.length : Int) != b.length) = true := by simp; omega
    have HV2 : Hid (r = false) := HR.out.trans (decide_eq_false fun h => hlen (by rw [h]))
    clear hlen
    go_enter Try.func62, Try.ntmps62
    go_wp2_with fail
    go_ret
    exact ⟨ret_bool HV2.out.symm, Below.refl _ _⟩

set_option maxHeartbeats 400000 in
theorem sameNeed_calls (a b : List (List Bool)) (u v : Value) (w : World) (hu : NIn w a u) (hv : NIn w b v) :
    Calls Try.prog 28 #[u, v] w fun e w' => e = .returned (.bool (decide (a = b))) ∧ Below w.heap.size w w' := by
  have HQ := mkHid (eqFuncN_calls a b u v w hu hv)
  obtain ⟨ad, cap, rfl, -, -, -⟩ := hu
  obtain ⟨ad', cap', rfl, -, -, -⟩ := hv
  go_enter Try.func28, Try.ntmps28
  go_wp2_with fail
  refine HQ.out.mono ?_
  rintro e w1 ⟨rfl, hb1⟩
  have HB1 := mkHid hb1
  clear hb1
  go_wp2_with fail
  go_ret
  exact ⟨rfl, HB1.out⟩

set_option maxHeartbeats 400000 in
theorem hasArity_calls (d : Df) (c : Value) (ad : Option Addr) (n cap : Nat) (w : World) (hk : In w d.2.kids c) (hcap : cap ≤ 9223372036854775807) (hn : n ≤ cap) :
    Calls Try.prog 27 #[.agg #[.int .i64 d.1, .int .i64 d.2.op, .int .i64 d.2.num, c], .slice ad n cap] w fun e w' => e = .returned (.bool (decide (d.1 = (n : Int)))) ∧ Below w.heap.size w w' := by
  obtain ⟨adk, capk, rfl, -, -, -⟩ := hk
  have HB : Hid (Below w.heap.size w (w.alloc (.cells #[.int .i64 d.1, .int .i64 d.2.op, .int .i64 d.2.num, .slice adk d.2.kids.length capk] 33))) := box_below _ _
  go_enter Try.func27, Try.ntmps27
  go_wp2_with fail
  go_ret
  exact ⟨rfl, HB.out⟩

set_option maxHeartbeats 800000 in
theorem eqFuncA_calls (ds : List Df) (need : List (List Bool)) (u v : Value) (w : World) (hu : DIn w ds u) (hv : NIn w need v) :
    Calls Try.prog 26 #[u, v, .func (.func 27) #[] #[]] w fun e w' => e = .returned (.bool (fitO ds need)) ∧ Below w.heap.size w w' := by
  have HU : Hid (DIn w ds u) := hu
  have HV : Hid (NIn w need v) := hv
  obtain ⟨ad, cap, rfl, hl, hm, -⟩ := hu
  obtain ⟨ad', cap', rfl, hl', hm', -⟩ := hv
  unfold maxLen at hm hm'
  obtain ⟨r, hr⟩ : ∃ r, r = fitO ds need := ⟨_, rfl⟩
  rw [← hr]
  have HR := mkHid hr
  clear hr
  by_cases hlen : ds.length = need.length
  · have t1 : ((ds.length : Int) != need.length) = false := by simp [hlen]
    have HL : Hid (ds.length = need.length) := hlen
    clear hlen
    go_enter Try.func26, Try.ntmps26
    go_wp2_with fail
    go_loopw [17] (fun i wr => ∃ k : Nat, k ≤ ds.length ∧ i = .int .i64 k ∧ (∀ j (h : j < ds.length) (h' : j < need.length), j < k → (need[j].length : Int) = ds[j].1) ∧ Below w.heap.size w wr) (fun i _ => ds.length - (intOf i).toNat)
    case atStart => exact ⟨0, Nat.zero_le _, rfl, fun j _ _ h => absurd h (by omega), Below.refl _ _⟩
    case round =>
      obtain ⟨k, hk, rfl, hall, hb⟩ := hrel
      have HA := mkHid hall
      have HB := mkHid hb
      clear hall hb
      by_cases hlt : k < ds.length
      · have hlt2 : k < need.length := by have := HL.out; omega
        obtain ⟨bl, off, c, rfl, c0, c1, c2, c3, -, -, -, hk1⟩ := (HU.out.next HB.out).at k hlt
        obtain ⟨bl', off', r2, rfl, -, d0, hk2⟩ := (HV.out.next HB.out).at k hlt2
        obtain ⟨ad1, cap1, rfl, -, -, -⟩ := id hk1
        obtain ⟨ad2, cap2, rfl, hl2, hm2, -⟩ := id hk2
        unfold maxLen at hm2
        obtain ⟨d, hd⟩ : ∃ d, d = ds[k] := ⟨_, rfl⟩
        rw [← hd] at c0 c1 c2 c3 hk1
        have HD := mkHid hd
        obtain ⟨m, hmm⟩ : ∃ m, m = need[k].length := ⟨_, rfl⟩
        rw [← hmm] at d0 hl2
        have HM := mkHid hmm
        have HBX : Hid (Below wr.heap.size wr (wr.alloc (.cells #[.int .i64 d.1, .int .i64 d.2.op, .int .i64 d.2.num, .slice ad1 d.2.kids.length cap1] 33))) := box_below _ _
        have d1 := old_cell d0 (.cells #[.int .i64 d.1, .int .i64 d.2.op, .int .i64 d.2.num, .slice ad1 d.2.kids.length cap1] 33)
        have HQ := mkHid (hasArity_calls d _ ad2 m cap2 _ (hk1.next HBX.out) (by omega) hl2)
        clear hd hk1 hk2 hmm d0
        go_wp2_with fail
        refine HQ.out.mono ?_
        rintro e w1 ⟨rfl, hb1⟩
        have HB1 : Hid (Below w.heap.size w w1) := HB.out.trans ((HBX.out.trans (hb1.mono HBX.out.size)).mono HB.out.size)
        clear hb1 c0 c1 c2 c3 d1
        by_cases hxy : d.1 = (m : Int)
        · have HA2 : Hid (∀ j (h : j < ds.length) (h' : j < need.length), j < k + 1 → (need[j].length : Int) = ds[j].1) := by
            intro j h h' hj
            by_cases e : j = k
            · subst e; rw [← HD.out, ← HM.out, hxy]
            · exact HA.out j h h' (by omega)
          rw [decide_eq_true hxy]
          clear hxy
          go_wp2_with fail
          go_roundw
          case rel => exact ⟨k + 1, by omega, by go_num, HA2.out, HB1.out⟩
          case measure => simp [intOf]; omega
        · have HV2 : Hid (r = false) := HR.out.trans (fitO_no fun h => hxy (by rw [HD.out, HM.out]; exact (h.2 k hlt hlt2).symm))
          rw [decide_eq_false hxy]
          clear hxy
          go_wp2_with fail
          go_ret
          exact ⟨ret_bool HV2.out.symm, HB1.out⟩
      · have HV2 : Hid (r = true) := HR.out.trans (fitO_yes ⟨HL.out.symm, fun j h h' => HA.out j h h' (by omega)⟩)
        go_wp2_with fail
        go_ret
        exact ⟨ret_bool HV2.out.symm, HB.out⟩
  · have t1 : ((ds.length : Int) != need.length) = true := by simp; omega
    have HV2 : Hid (r = false) := HR.out.trans (fitO_no fun h => hlen h.1.symm)
    clear hlen
    go_enter Try.func26, Try.ntmps26
    go_wp2_with fail
    go_ret
    exact ⟨ret_bool HV2.out.symm, Below.refl _ _⟩
end Go.Proofs.Ytpkephkgaflklaa
/-
  TREES WHOSE BLOCKS ARE ALL DISTINCT: a footprint, the list of the blocks of a tree's rows; what a write into them leaves.
-/
namespace Go.Proofs.Ytpkephkgaflklaa
set_option linter.unusedVariables false
set_option linter.unusedSimpArgs false
open Go.RowKit

mutual
/-- the three cells of a tree, its rows in the blocks fp -/
def TrFp (w : World) (T : TypeId) : Tr → List Nat → Value → Value → Value → Prop
  | .node op n ks, fp, a, b, c => a = .int .i64 op ∧ b = .int .i64 n ∧ I64 op ∧ I64 n ∧
      ∃ ad cap, c = .slice ad ks.length cap ∧ ks.length ≤ cap ∧ cap ≤ maxLen ∧
        ((ks = [] ∧ fp = []) ∨ ∃ bl off C fps, ad = some ⟨bl, off, none⟩ ∧ w.heap[bl]? = some (.cells C T) ∧ fp = bl :: fps.flatten ∧ RowFp w T bl off ks fps)
/-- the trees of a row, each with its own blocks -/
def RowFp (w : World) (T : TypeId) (bl off : Nat) : List Tr → List (List Nat) → Prop
  | [], fps => fps = []
  | t :: ts, fps => ∃ f fs, fps = f :: fs ∧ (∃ a b c, w.cell? ⟨bl, off, none⟩ = some a ∧ w.cell? ⟨bl, off + 1, none⟩ = some b ∧ w.cell? ⟨bl, off + 2, none⟩ = some c ∧ TrFp w T t f a b c) ∧ RowFp w T bl (off + 3) ts fs
end

/-- a slice value that holds these trees, in the blocks fp -/
def KidsFp (w : World) (T : TypeId) (ks : List Tr) (fp : List Nat) (c : Value) : Prop :=
  ∃ ad cap, c = .slice ad ks.length cap ∧ ks.length ≤ cap ∧ cap ≤ maxLen ∧
    ((ks = [] ∧ fp = []) ∨ ∃ bl off C fps, ad = some ⟨bl, off, none⟩ ∧ w.heap[bl]? = some (.cells C T) ∧ fp = bl :: fps.flatten ∧ RowFp w T bl off ks fps)

theorem trFp_iff {w : World} {T : TypeId} {t : Tr} {fp : List Nat} {a b c : Value} : TrFp w T t fp a b c ↔ a = .int .i64 t.op ∧ b = .int .i64 t.num ∧ I64 t.op ∧ I64 t.num ∧ KidsFp w T t.kids fp c := by
  cases t; simp [TrFp, KidsFp]

mutual
theorem TrFp.keep {w w' : World} {T : TypeId} : ∀ (t : Tr) (fp : List Nat) (a b c : Value), (∀ k ∈ fp, w'.heap[k]? = w.heap[k]?) → TrFp w T t fp a b c → TrFp w' T t fp a b c
  | .node op n ks, fp, a, b, c, hw, h => by
    simp only [TrFp] at h ⊢
    obtain ⟨h1, h2, h3, h4, ad, cap, e, l1, l2, h5⟩ := h
    refine ⟨h1, h2, h3, h4, ad, cap, e, l1, l2, ?_⟩
    rcases h5 with h5 | ⟨bl, off, C, fps, e, hb, rfl, r⟩
    · exact Or.inl h5
    · exact Or.inr ⟨bl, off, C, fps, e, (hw bl (by simp)).trans hb, rfl, RowFp.keep bl off ks fps (hw bl (by simp)) (fun f hf k hk => hw k (by simp only [List.mem_cons, List.mem_flatten]; exact Or.inr ⟨f, hf, hk⟩)) r⟩
theorem RowFp.keep {w w' : World} {T : TypeId} (bl off : Nat) : ∀ (ks : List Tr) (fps : List (List Nat)), w'.heap[bl]? = w.heap[bl]? → (∀ f ∈ fps, ∀ k ∈ f, w'.heap[k]? = w.heap[k]?) → RowFp w T bl off ks fps → RowFp w' T bl off ks fps
  | [], fps, _, _, h => by simpa [RowFp] using h
  | t :: ts, fps, hb, hw, h => by
    simp only [RowFp] at h ⊢
    obtain ⟨f, fs, rfl, ⟨a, b, c, ha, hbb, hc, ht⟩, hr⟩ := h
    refine ⟨f, fs, rfl, ⟨a, b, c, ?_, ?_, ?_, TrFp.keep t f a b c (hw f (by simp)) ht⟩, RowFp.keep bl (off + 3) ts fs hb (fun g hg => hw g (by simp [hg])) hr⟩
    · rw [World.cell?_of_block (w := w) hb]; exact ha
    · rw [World.cell?_of_block (w := w) hb]; exact hbb
    · rw [World.cell?_of_block (w := w) hb]; exact hc
end
theorem KidsFp.keep {w w' : World} {T : TypeId} {ks : List Tr} {fp : List Nat} {c : Value} (h : KidsFp w T ks fp c) (hw : ∀ k ∈ fp, w'.heap[k]? = w.heap[k]?) : KidsFp w' T ks fp c := by
  obtain ⟨ad, cap, e, l1, l2, h5⟩ := h
  refine ⟨ad, cap, e, l1, l2, ?_⟩
  rcases h5 with h5 | ⟨bl, off, C, fps, e, hb, rfl, r⟩
  · exact Or.inl h5
  · exact Or.inr ⟨bl, off, C, fps, e, (hw bl (by simp)).trans hb, rfl, RowFp.keep bl off ks fps (hw bl (by simp)) (fun f hf k hk => hw k (by simp only [List.mem_cons, List.mem_flatten]; exact Or.inr ⟨f, hf, hk⟩)) r⟩

/-- the blocks lie in the heap -/
theorem cellsOf_lt {w : World} {b : Nat} {o : Obj} (h : w.heap[b]? = some o) : b < w.heap.size := (Array.getElem?_eq_some_iff.1 h).1
mutual
theorem TrFp.on {w : World} {T : TypeId} {S : Nat → Prop} : ∀ (t : Tr) (fp : List Nat) (a b c : Value), (∀ k ∈ fp, S k) → TrFp w T t fp a b c → TrOn w S t a b c
  | .node op n ks, fp, a, b, c, hS, h => by
    simp only [TrFp] at h
    simp only [TrOn]
    obtain ⟨h1, h2, h3, h4, ad, cap, e, l1, l2, h5⟩ := h
    refine ⟨h1, h2, h3, h4, ad, cap, e, l1, l2, ?_⟩
    rcases h5 with ⟨h5, _⟩ | ⟨bl, off, C, fps, e, hb, rfl, r⟩
    · exact Or.inl h5
    · exact Or.inr ⟨bl, off, e, hS bl (by simp), RowFp.on bl off ks fps (fun f hf k hk => hS k (by simp only [List.mem_cons, List.mem_flatten]; exact Or.inr ⟨f, hf, hk⟩)) r⟩
theorem RowFp.on {w : World} {T : TypeId} {S : Nat → Prop} (bl off : Nat) : ∀ (ks : List Tr) (fps : List (List Nat)), (∀ f ∈ fps, ∀ k ∈ f, S k) → RowFp w T bl off ks fps → RowOn w S bl off ks
  | [], fps, _, h => by simp [RowOn]
  | t :: ts, fps, hS, h => by
    simp only [RowFp] at h
    simp only [RowOn]
    obtain ⟨f, fs, rfl, ⟨a, b, c, ha, hbb, hc, ht⟩, hr⟩ := h
    exact ⟨⟨a, b, c, ha, hbb, hc, TrFp.on t f a b c (hS f (by simp)) ht⟩, RowFp.on bl (off + 3) ts fs (fun g hg => hS g (by simp [hg])) hr⟩
end
theorem KidsFp.on {w : World} {T : TypeId} {S : Nat → Prop} {ks : List Tr} {fp : List Nat} {c : Value} (h : KidsFp w T ks fp c) (hS : ∀ k ∈ fp, S k) : KidsOn w S ks c := by
  obtain ⟨ad, cap, e, l1, l2, h5⟩ := h
  refine ⟨ad, cap, e, l1, l2, ?_⟩
  rcases h5 with ⟨h5, _⟩ | ⟨bl, off, C, fps, e, hb, rfl, r⟩
  · exact Or.inl h5
  · exact Or.inr ⟨bl, off, e, hS bl (by simp), RowFp.on bl off ks fps (fun f hf k hk => hS k (by simp only [List.mem_cons, List.mem_flatten]; exact Or.inr ⟨f, hf, hk⟩)) r⟩

/-- element i of a row -/
theorem RowFp.at {w : World} {T : TypeId} {bl : Nat} : ∀ (ks : List Tr) (fps : List (List Nat)) (off i : Nat) (hi : i < ks.length), RowFp w T bl off ks fps →
    fps.length = ks.length ∧ ∃ f, fps[i]? = some f ∧ ∃ a b c, w.cell? ⟨bl, off + i * 3, none⟩ = some a ∧ w.cell? ⟨bl, off + i * 3 + 1, none⟩ = some b ∧ w.cell? ⟨bl, off + i * 3 + 2, none⟩ = some c ∧ TrFp w T ks[i] f a b c
  | [], _, _, _, hi, _ => by simp at hi
  | t :: ts, fps, off, 0, _, h => by
    simp only [RowFp] at h
    obtain ⟨f, fs, rfl, h1, h2⟩ := h
    refine ⟨?_, f, rfl, by simpa using h1⟩
    cases ts with
    | nil => simp only [RowFp] at h2; simp [h2]
    | cons u us => simp [(RowFp.at (u :: us) fs (off + 3) 0 (by simp) h2).1]
  | t :: ts, fps, off, i + 1, hi, h => by
    simp only [RowFp] at h
    obtain ⟨f, fs, rfl, h1, h2⟩ := h
    have := RowFp.at ts fs (off + 3) i (by simpa using hi) h2
    have e : off + 3 + i * 3 = off + (i + 1) * 3 := by omega
    rw [e] at this
    exact ⟨by simp [this.1], by simpa using this.2⟩

/-- a row from its elements -/
theorem RowFp.of {w : World} {T : TypeId} {bl : Nat} : ∀ (ks : List Tr) (fps : List (List Nat)) (off : Nat), fps.length = ks.length →
    (∀ i (hi : i < ks.length), ∃ f, fps[i]? = some f ∧ ∃ a b c, w.cell? ⟨bl, off + i * 3, none⟩ = some a ∧ w.cell? ⟨bl, off + i * 3 + 1, none⟩ = some b ∧ w.cell? ⟨bl, off + i * 3 + 2, none⟩ = some c ∧ TrFp w T ks[i] f a b c) → RowFp w T bl off ks fps
  | [], fps, _, hl, _ => by simpa [RowFp] using hl
  | t :: ts, [], _, hl, _ => by simp at hl
  | t :: ts, f :: fs, off, hl, h => by
    simp only [RowFp]
    refine ⟨f, fs, rfl, ?_, RowFp.of ts fs (off + 3) (by simpa using hl) fun i hi => ?_⟩
    · obtain ⟨f', hf, a, b, c, h1⟩ := h 0 (by simp)
      simp only [List.getElem?_cons_zero, Option.some.injEq] at hf
      subst hf
      simp only [Nat.zero_mul, Nat.add_zero, List.getElem_cons_zero] at h1
      exact ⟨a, b, c, h1⟩
    · have := h (i + 1) (by simpa using hi)
      have e : off + (i + 1) * 3 = off + 3 + i * 3 := by omega
      rw [e] at this
      simpa using this

/-! ### Numbered trees -/
/-- the trees of a list with their numbers replaced, in order, from k on -/
def labL : List Tr → Int → List Tr
  | [], _ => []
  | .node _ _ ks :: ts, k => .node k (k + 1) (labL ks (k + 2)) :: labL ts (k + 2 + 2 * (szL ks : Int))
theorem labL_length : ∀ (ts : List Tr) (k : Int), (labL ts k).length = ts.length
  | [], _ => by simp [labL]
  | .node _ _ ks :: ts, k => by simp [labL, labL_length ts]
theorem labL_cons (t : Tr) (ts : List Tr) (k : Int) : labL (t :: ts) k = .node k (k + 1) (labL t.kids (k + 2)) :: labL ts (k + 2 + 2 * (szT t : Int)) := by
  cases t; simp [labL, szT]
theorem labL_append : ∀ (a b : List Tr) (k : Int), labL (a ++ b) k = labL a k ++ labL b (k + 2 * (szL a : Int))
  | [], b, k => by simp [labL, szL]
  | t :: a, b, k => by
    rw [List.cons_append, labL_cons, labL_cons, labL_append a b]
    simp only [List.cons_append, szL]
    congr 3
    push_cast
    omega
end Go.Proofs.Ytpkephkgaflklaa
/-
  THE NUMBERS THAT MARKED TREES BEAR, element by element.
-/
namespace Go.Proofs.Ytpkephkgaflklaa
set_option linter.unusedVariables false
set_option linter.unusedSimpArgs false
open Go.RowKit

/-- the number that stands at element i -/
def labAt (ks : List Tr) (k : Int) (i : Nat) : Int := k + 2 * (szL (ks.take i) : Int)
theorem labAt_zero (ks : List Tr) (k : Int) : labAt ks k 0 = k := by simp [labAt, szL]
theorem labAt_end (ks : List Tr) (k : Int) : labAt ks k ks.length = k + 2 * (szL ks : Int) := by simp [labAt]
theorem labAt_succ (ks : List Tr) (k : Int) (i : Nat) (hi : i < ks.length) : labAt ks k (i + 1) = labAt ks k i + 2 + 2 * (szL ks[i].kids : Int) := by
  unfold labAt
  rw [szL_take_succ ks i hi, szT_eq]
  push_cast
  omega
theorem labAt_le (ks : List Tr) (k : Int) (i : Nat) : k ≤ labAt ks k i ∧ labAt ks k i ≤ k + 2 * (szL ks : Int) := by
  have := szL_take_le ks i
  unfold labAt
  omega
theorem labL_get : ∀ (ks : List Tr) (k : Int) (i : Nat) (hi : i < ks.length) (hj : i < (labL ks k).length), (labL ks k)[i] = .node (labAt ks k i) (labAt ks k i + 1) (labL ks[i].kids (labAt ks k i + 2))
  | [], _, _, hi, _ => by simp at hi
  | t :: ts, k, 0, _, _ => by simp [labL_cons, labAt_zero]
  | t :: ts, k, i + 1, hi, hj => by
    have := labL_get ts (k + 2 + 2 * (szT t : Int)) i (by simpa using hi) (by rw [labL_length]; simpa using hi)
    simp only [labL_cons, List.getElem_cons_succ, this]
    have e : labAt ts (k + 2 + 2 * (szT t : Int)) i = labAt (t :: ts) k (i + 1) := by
      unfold labAt
      simp only [List.take_succ_cons, szL]
      push_cast
      omega
    rw [e]

end Go.Proofs.Ytpkephkgaflklaa
/-
  THE LAWS' OWN MARKING OF TREES (markExprS, markExpr): a list of trees whose blocks are all distinct bears its numbers in order afterwards; no other block is changed.
-/
namespace Go.Proofs.Ytpkephkgaflklaa
set_option linter.unusedVariables false
set_option linter.unusedSimpArgs false
open Go.RowKit


mutual
theorem TrFp.lt {w : World} {T : TypeId} : ∀ (t : Tr) (fp : List Nat) (a b c : Value), TrFp w T t fp a b c → ∀ k ∈ fp, k < w.heap.size
  | .node op n ks, fp, a, b, c, h, k, hk => by
    simp only [TrFp] at h
    obtain ⟨-, -, -, -, ad, cap, e, l1, l2, h5⟩ := h
    rcases h5 with ⟨-, rfl⟩ | ⟨bl, off, C, fps, e, hb, rfl, r⟩
    · simp at hk
    · simp only [List.mem_cons, List.mem_flatten] at hk
      rcases hk with rfl | ⟨f, hf, hk⟩
      · exact cellsOf_lt hb
      · exact RowFp.lt bl off ks fps r f hf k hk
theorem RowFp.lt {w : World} {T : TypeId} (bl off : Nat) : ∀ (ks : List Tr) (fps : List (List Nat)), RowFp w T bl off ks fps → ∀ f ∈ fps, ∀ k ∈ f, k < w.heap.size
  | [], fps, h, f, hf, k, hk => by simp only [RowFp] at h; subst h; simp at hf
  | t :: ts, fps, h, f, hf, k, hk => by
    simp only [RowFp] at h
    obtain ⟨g, gs, rfl, ⟨a, b, c, -, -, -, ht⟩, hr⟩ := h
    simp only [List.mem_cons] at hf
    rcases hf with rfl | hf
    · exact TrFp.lt t f a b c ht k hk
    · exact RowFp.lt bl (off + 3) ts gs hr f hf k hk
end
theorem KidsFp.lt {w : World} {T : TypeId} {ks : List Tr} {fp : List Nat} {c : Value} (h : KidsFp w T ks fp c) : ∀ k ∈ fp, k < w.heap.size := by
  obtain ⟨ad, cap, e, l1, l2, h5⟩ := h
  intro k hk
  rcases h5 with ⟨-, rfl⟩ | ⟨bl, off, C, fps, e, hb, rfl, r⟩
  · simp at hk
  · simp only [List.mem_cons, List.mem_flatten] at hk
    rcases hk with rfl | ⟨f, hf, hk⟩
    · exact cellsOf_lt hb
    · exact RowFp.lt bl off ks fps r f hf k hk

/-- two lists out of a list of lists have no block in common -/
theorem flatten_disj : ∀ {fps : List (List Nat)} (h : fps.flatten.Nodup) {i j : Nat} {f g : List Nat}, fps[i]? = some f → fps[j]? = some g → i ≠ j → ∀ k ∈ f, k ∉ g
  | [], _, _, _, _, _, hi, _, _, _, _ => by simp at hi
  | x :: xs, h, 0, 0, _, _, _, _, hne, _, _ => absurd rfl hne
  | x :: xs, h, 0, j + 1, f, g, hi, hj, _, k, hk => by
    simp only [List.flatten_cons, List.nodup_append] at h
    simp only [List.getElem?_cons_zero, Option.some.injEq] at hi
    simp only [List.getElem?_cons_succ] at hj
    subst hi
    exact fun hg => h.2.2 k hk k (List.mem_flatten.2 ⟨g, List.mem_of_getElem? hj, hg⟩) rfl
  | x :: xs, h, i + 1, 0, f, g, hi, hj, _, k, hk => by
    simp only [List.flatten_cons, List.nodup_append] at h
    simp only [List.getElem?_cons_zero, Option.some.injEq] at hj
    simp only [List.getElem?_cons_succ] at hi
    subst hj
    exact fun hg => h.2.2 k hg k (List.mem_flatten.2 ⟨f, List.mem_of_getElem? hi, hk⟩) rfl
  | x :: xs, h, i + 1, j + 1, f, g, hi, hj, hne, k, hk => by
    simp only [List.flatten_cons, List.nodup_append] at h
    exact flatten_disj h.2.1 (by simpa using hi) (by simpa using hj) (by omega) k hk
theorem flatten_one : ∀ {fps : List (List Nat)} (h : fps.flatten.Nodup) {i : Nat} {f : List Nat}, fps[i]? = some f → f.Nodup
  | [], _, _, _, hi => by simp at hi
  | x :: xs, h, 0, f, hi => by
    simp only [List.flatten_cons, List.nodup_append] at h
    simp only [List.getElem?_cons_zero, Option.some.injEq] at hi
    subst hi
    exact h.1
  | x :: xs, h, i + 1, f, hi => by
    simp only [List.flatten_cons, List.nodup_append] at h
    exact flatten_one h.2.1 (by simpa using hi)

/-- a store into a block: the block, the cell, the other cells -/
theorem set_block {w : World} {b : Nat} {C : Array Value} {T : TypeId} (h : w.heap[b]? = some (.cells C T)) (o : Nat) (u : Value) : ∃ C', (w.setCell ⟨b, o, none⟩ u).heap[b]? = some (.cells C' T) := by
  simp [World.setCell, Array.getElem?_modify, h]
theorem set_at {w : World} {b o : Nat} {C : Array Value} {T : TypeId} (h : w.heap[b]? = some (.cells C T)) {v : Value} (hv : w.cell? ⟨b, o, none⟩ = some v) (u : Value) : (w.setCell ⟨b, o, none⟩ u).cell? ⟨b, o, none⟩ = some u := by
  simp only [World.cell?, h] at hv
  have hlt := (Array.getElem?_eq_some_iff.1 (by simpa using hv)).1
  simp [World.cell?, World.setCell, Array.getElem?_modify, h, Array.getElem?_setIfInBounds, hlt]
theorem set_off {w : World} {b o i : Nat} {C : Array Value} {T : TypeId} (h : w.heap[b]? = some (.cells C T)) (hi : i ≠ o) (u : Value) : (w.setCell ⟨b, o, none⟩ u).cell? ⟨b, i, none⟩ = w.cell? ⟨b, i, none⟩ := by
  simp [World.cell?, World.setCell, Array.getElem?_modify, h, Array.getElem?_setIfInBounds, Ne.symm hi]
theorem cells_thawed {w : World} {b : Nat} {C : Array Value} {T : TypeId} (h : w.heap[b]? = some (.cells C T)) (o : Nat) : w.frozen? ⟨b, o, none⟩ = false := by simp [World.frozen?, h]

/-- element j of a row was marked: its two numbers, then the trees below it -/
theorem RowFp.mark {w w1 : World} {T : TypeId} {bl off : Nat} {ks : List Tr} {fps : List (List Nat)} {C : Array Value} (hb : w.heap[bl]? = some (.cells C T)) (hr : RowFp w T bl off ks fps) (hn : (bl :: fps.flatten).Nodup)
    (j : Nat) (hj : j < ks.length) (x y : Int) (hx : I64 x) (hy : I64 y) (f : List Nat) (hf : fps[j]? = some f) (r : Value) (hc : w.cell? ⟨bl, off + j * 3 + 2, none⟩ = some r) (ks' : List Tr) (h1 : KidsFp w1 T ks' f r)
    (hbut : ButL f ((w.setCell ⟨bl, off + j * 3, none⟩ (.int .i64 x)).setCell ⟨bl, off + j * 3 + 1, none⟩ (.int .i64 y)) w1) :
    RowFp w1 T bl off (ks.set j (.node x y ks')) fps ∧ ∃ C', w1.heap[bl]? = some (.cells C' T) := by
  have hbl : bl < w.heap.size := cellsOf_lt hb
  simp only [List.nodup_cons] at hn
  obtain ⟨hn1, hn2⟩ := hn
  have hblf : bl ∉ f := fun hm => hn1 (List.mem_flatten.2 ⟨f, List.mem_of_getElem? hf, hm⟩)
  obtain ⟨C1, hC1⟩ := set_block hb (off + j * 3) (.int .i64 x)
  obtain ⟨C2, hC2⟩ := set_block hC1 (off + j * 3 + 1) (.int .i64 y)
  have hsz : ((w.setCell ⟨bl, off + j * 3, none⟩ (.int .i64 x)).setCell ⟨bl, off + j * 3 + 1, none⟩ (.int .i64 y)).heap.size = w.heap.size := by rw [size_setCell, size_setCell]
  have hblk : w1.heap[bl]? = ((w.setCell ⟨bl, off + j * 3, none⟩ (.int .i64 x)).setCell ⟨bl, off + j * 3 + 1, none⟩ (.int .i64 y)).heap[bl]? := hbut.block bl (by rw [hsz]; exact hbl) hblf
  have hcell : ∀ i, w1.cell? ⟨bl, i, none⟩ = ((w.setCell ⟨bl, off + j * 3, none⟩ (.int .i64 x)).setCell ⟨bl, off + j * 3 + 1, none⟩ (.int .i64 y)).cell? ⟨bl, i, none⟩ := fun i => World.cell?_of_block hblk
  have hsame : ∀ i, i ≠ off + j * 3 → i ≠ off + j * 3 + 1 → w1.cell? ⟨bl, i, none⟩ = w.cell? ⟨bl, i, none⟩ := fun i h1 h2 => by rw [hcell, set_off hC1 h2, set_off hb h1]
  refine ⟨RowFp.of _ _ _ ?_ ?_, C2, hblk.trans hC2⟩
  · rw [List.length_set]; exact (RowFp.at ks fps off j hj hr).1
  intro i hi
  rw [List.length_set] at hi
  obtain ⟨-, g, hg, a, b, c, ha, hbb, hcc, ht⟩ := RowFp.at ks fps off i hi hr
  refine ⟨g, hg, ?_⟩
  by_cases hij : i = j
  · subst hij
    rw [hf] at hg
    cases hg
    rw [hc] at hcc
    cases hcc
    refine ⟨.int .i64 x, .int .i64 y, r, ?_, ?_, ?_, ?_⟩
    · rw [hcell, set_off hC1 (by omega), set_at hb ha]
    · rw [hcell]
      exact set_at hC1 (v := b) (by rw [set_off hb (by omega)]; exact hbb) _
    · rw [hsame _ (by omega) (by omega)]; exact hc
    · simp only [List.getElem_set_self]
      exact trFp_iff.2 ⟨rfl, rfl, hx, hy, h1⟩
  · refine ⟨a, b, c, ?_, ?_, ?_, ?_⟩
    · rw [hsame _ (by omega) (by omega)]; exact ha
    · rw [hsame _ (by omega) (by omega)]; exact hbb
    · rw [hsame _ (by omega) (by omega)]; exact hcc
    · rw [List.getElem_set_ne (by omega)]
      refine TrFp.keep _ g a b c (fun k hk => ?_) ht
      have hkl := TrFp.lt _ g a b c ht k hk
      have hkb : k ≠ bl := fun e => hn1 (List.mem_flatten.2 ⟨g, List.mem_of_getElem? hg, e ▸ hk⟩)
      rw [hbut.block k (by rw [hsz]; exact hkl) (flatten_disj hn2 hg hf hij k hk)]
      exact (Below.heap_setCell _ _ _ _ hkb).trans (Below.heap_setCell _ _ _ _ hkb)
end Go.Proofs.Ytpkephkgaflklaa
/-
  THE LAWS' OWN COPY OF AN ARGUMENT (toExpr, toExprS), ITS BLOCKS ALL DISTINCT: the same trees, in new memory; nothing that was there is changed.
-/
namespace Go.Proofs.Ytpkephkgaflklaa
set_option linter.unusedVariables false
set_option linter.unusedSimpArgs false
open Go.RowKit

/-- trees whose blocks are distinct, from lo on -/
def Fresh (w : World) (lo : Nat) (ks : List Tr) (c : Value) : Prop := ∃ fp, KidsFp w 31 ks fp c ∧ fp.Nodup ∧ ∀ k ∈ fp, lo ≤ k
theorem Fresh.on {w : World} {lo : Nat} {ks : List Tr} {c : Value} (h : Fresh w lo ks c) : KidsOn w (Btw lo w.heap.size) ks c := by
  obtain ⟨fp, h1, h2, h3⟩ := h
  exact h1.on fun k hk => ⟨h3 k hk, h1.lt k hk⟩
theorem Fresh.mono {w w' : World} {lo lo' : Nat} {ks : List Tr} {c : Value} (h : Fresh w lo ks c) (hl : lo' ≤ lo) (hw : ∀ k, lo ≤ k → k < w.heap.size → w'.heap[k]? = w.heap[k]?) : Fresh w' lo' ks c := by
  obtain ⟨fp, h1, h2, h3⟩ := h
  exact ⟨fp, h1.keep fun k hk => hw k (h3 k hk) (h1.lt k hk), h2, fun k hk => Nat.le_trans hl (h3 k hk)⟩
theorem Fresh.next {w w' : World} {lo : Nat} {ks : List Tr} {c : Value} (h : Fresh w lo ks c) (hb : Below w.heap.size w w') : Fresh w' lo ks c := h.mono (Nat.le_refl _) fun k _ hk => hb.block k hk
theorem Fresh.setCell {w : World} {lo : Nat} {ks : List Tr} {c : Value} (h : Fresh w lo ks c) {a : Addr} (ha : a.block < lo) (u : Value) : Fresh (w.setCell a u) lo ks c :=
  h.mono (Nat.le_refl _) fun k hk _ => Below.heap_setCell _ _ _ _ (by omega)

/-- a call has handed back these trees in new memory, all blocks distinct -/
def FreshKids (ks : List Tr) (w : World) (e : Ending) (w' : World) : Prop := ∃ v, e = .returned v ∧ Fresh w' w.heap.size ks v ∧ Below w.heap.size w w'
/-- .. one tree -/
def FreshTr (o n : Int) (ks : List Tr) (w : World) (e : Ending) (w' : World) : Prop := ∃ v, e = .returned (.agg #[.int .i64 o, .int .i64 n, v]) ∧ Fresh w' w.heap.size ks v ∧ Below w.heap.size w w'

/-- what holds of the copy of a list behind k rounds -/
def FToRel (ks : List Tr) (w : World) (k : Nat) (wr : World) : Prop :=
  ∃ (f : Nat → Value) (fps : List (List Nat)), fps.length = k ∧ wr.rowIs w.heap.size 31 (ks.length * 3) f ∧ (∀ j (_ : j < k) (hj : j < ks.length), ∃ g, fps[j]? = some g ∧ TrFp wr 31 ks[j] g (f (j * 3)) (f (j * 3 + 1)) (f (j * 3 + 2))) ∧ fps.flatten.Nodup ∧ (∀ b ∈ fps.flatten, w.heap.size < b ∧ b < wr.heap.size) ∧ Below w.heap.size w wr

theorem ftoRel_start (ks : List Tr) (w : World) (C : Array Value) (h : C.size = ks.length * 3) : FToRel ks w 0 (w.alloc (.cells C 31)) := by
  refine ⟨fun i => C.getD i undef, [], rfl, ⟨C, Deep.blk_alloc_new _ _, h, fun i hi => ?_⟩, fun j hj => absurd hj (by omega), by simp, by simp, (Below.refl _ _).alloc (Nat.le_refl _) _⟩
  simp [Array.getElem?_eq_getElem (h ▸ hi : i < C.size), Array.getD, (h ▸ hi : i < C.size)]

theorem ftoRel_step (ks : List Tr) (w wr w1 : World) (k : Nat) (hk : k < ks.length) (h : FToRel ks w k wr) (v : Value) (hb : Below wr.heap.size wr w1) (hv : Fresh w1 wr.heap.size (ks[k]).kids v) (ho : I64 (ks[k]).op) (hn : I64 (ks[k]).num) :
    FToRel ks w (k + 1) (((w1.setCell ⟨w.heap.size, k * 3, none⟩ (.int .i64 (ks[k]).op)).setCell ⟨w.heap.size, k * 3 + 1, none⟩ (.int .i64 (ks[k]).num)).setCell ⟨w.heap.size, k * 3 + 2, none⟩ v) := by
  obtain ⟨f, fps, hfl, hr, ht, hnd, hfb, hbw⟩ := h
  obtain ⟨fp, v1, v2, v3⟩ := hv
  have hlt := hr.lt
  have hr1 : w1.rowIs w.heap.size 31 (ks.length * 3) f := hr.of_block (hb.block _ hlt)
  have hsz := hb.size
  have keep : ∀ b, b ≠ w.heap.size → (((w1.setCell ⟨w.heap.size, k * 3, none⟩ (.int .i64 (ks[k]).op)).setCell ⟨w.heap.size, k * 3 + 1, none⟩ (.int .i64 (ks[k]).num)).setCell ⟨w.heap.size, k * 3 + 2, none⟩ v).heap[b]? = w1.heap[b]? :=
    fun b hne => ((Below.heap_setCell _ _ _ _ hne).trans (Below.heap_setCell _ _ _ _ hne)).trans (Below.heap_setCell _ _ _ _ hne)
  have hs3 : k * 3 + 2 < ks.length * 3 := by omega
  refine ⟨_, fps ++ [fp], by simp [hfl], ((hr1.set (k * 3) _).set (k * 3 + 1) _).set (k * 3 + 2) _, fun j hj hjl => ?_, ?_, ?_, ?_⟩
  · by_cases hjk : j = k
    · subst hjk
      have : TrFp w1 31 ks[j] fp (.int .i64 (ks[j]).op) (.int .i64 (ks[j]).num) v := trFp_iff.2 ⟨rfl, rfl, ho, hn, v1⟩
      have h2 := TrFp.keep _ _ _ _ _ (fun b hbm => keep b (by have := v3 b hbm; omega)) this
      refine ⟨fp, by rw [← hfl]; simp, ?_⟩
      simpa using h2
    · obtain ⟨g, hg, h0⟩ := ht j (by omega) hjl
      have hgm : ∀ b ∈ g, w.heap.size < b ∧ b < wr.heap.size := fun b hbm => hfb b (List.mem_flatten.2 ⟨g, List.mem_of_getElem? hg, hbm⟩)
      have h2 := TrFp.keep _ _ _ _ _ (fun b hbm => (keep b (by have := hgm b hbm; omega)).trans (hb.block b (hgm b hbm).2)) h0
      have e1 : ∀ m, m < 3 → j * 3 + m ≠ k * 3 + 2 ∧ j * 3 + m ≠ k * 3 + 1 ∧ j * 3 + m ≠ k * 3 := fun m hm => by omega
      have a0 := e1 0 (by omega)
      have a1 := e1 1 (by omega)
      have a2 := e1 2 (by omega)
      simp only [Nat.add_zero] at a0
      refine ⟨g, by rw [List.getElem?_append_left (by omega)]; exact hg, ?_⟩
      simpa [a0, a1, a2] using h2
  · rw [List.flatten_append, List.nodup_append]
    refine ⟨hnd, by simpa using v2, fun x hx y hy e => ?_⟩
    have h1 := (hfb x hx).2
    have h2 := v3 y (by simpa using hy)
    omega
  · intro b hbm
    simp only [size_setCell]
    simp only [List.flatten_append, List.mem_append] at hbm
    rcases hbm with hbm | hbm
    · have := hfb b hbm; omega
    · have hbm' : b ∈ fp := by simpa using hbm
      have h1 := v3 b hbm'
      have h2 := v1.lt b hbm'
      omega
  · exact (((hbw.trans (hb.mono (Nat.le_of_lt hlt))).setCell (by simp) _).setCell (by simp) _).setCell (by simp) _

theorem ftoRel_end (ks : List Tr) (w wr : World) (h : FToRel ks w ks.length wr) (hl : ks.length ≤ 1048576) : FreshKids ks w (.returned (.slice (some ⟨w.heap.size, 0, none⟩) ks.length ks.length)) wr := by
  obtain ⟨f, fps, hfl, hr, ht, hnd, hfb, hbw⟩ := h
  have hlt := hr.lt
  obtain ⟨C, hC, _, _⟩ := id hr
  refine ⟨_, rfl, ⟨w.heap.size :: fps.flatten, ⟨_, _, rfl, Nat.le_refl _, by unfold maxLen; omega, Or.inr ⟨_, _, C, fps, rfl, hC, rfl, RowFp.of _ _ _ hfl fun i hi => ?_⟩⟩, ?_, ?_⟩, hbw⟩
  · obtain ⟨g, hg, h1⟩ := ht i hi hi
    refine ⟨g, hg, f (i * 3), f (i * 3 + 1), f (i * 3 + 2), ?_, ?_, ?_, h1⟩
    · simpa using hr.cell (i := i * 3) (by omega)
    · simpa [Nat.zero_add] using hr.cell (i := i * 3 + 1) (by omega)
    · simpa [Nat.zero_add] using hr.cell (i := i * 3 + 2) (by omega)
  · rw [List.nodup_cons]
    exact ⟨fun hm => by have := (hfb _ hm).1; omega, hnd⟩
  · intro b hbm
    rw [List.mem_cons] at hbm
    rcases hbm with rfl | hbm
    · exact Nat.le_refl _
    · have := (hfb b hbm).1; omega

end Go.Proofs.Ytpkephkgaflklaa
/-
  TREES WHOSE BLOCKS ARE DISTINCT LIE IN PLAIN BLOCKS.
-/
namespace Go.Proofs.Ytpkephkgaflklaa
set_option linter.unusedVariables false
set_option linter.unusedSimpArgs false
open Go.RowKit

mutual
theorem TrFp.plain {w : World} {T : TypeId} : ∀ (t : Tr) (fp : List Nat) (a b c : Value), TrFp w T t fp a b c → ∀ k ∈ fp, Pl w k
  | .node op n ks, fp, a, b, c, h => by
    simp only [TrFp] at h
    obtain ⟨-, -, -, -, ad, cap, -, -, -, h5⟩ := h
    rcases h5 with ⟨-, rfl⟩ | ⟨bl, off, C, fps, -, hb, rfl, r⟩
    · simp
    · intro k hk
      rw [List.mem_cons] at hk
      rcases hk with rfl | hk
      · exact ⟨cellsOf_lt hb, C, T, hb⟩
      · obtain ⟨f, hf, hkf⟩ := List.mem_flatten.1 hk
        exact RowFp.plain bl off ks fps r f hf k hkf
theorem RowFp.plain {w : World} {T : TypeId} (bl off : Nat) : ∀ (ks : List Tr) (fps : List (List Nat)), RowFp w T bl off ks fps → ∀ f ∈ fps, ∀ k ∈ f, Pl w k
  | [], fps, h => by
    simp only [RowFp] at h
    subst h
    simp
  | t :: ts, fps, h => by
    simp only [RowFp] at h
    obtain ⟨f, fs, rfl, ⟨a, b, c, -, -, -, ht⟩, hr⟩ := h
    intro g hg k hk
    rw [List.mem_cons] at hg
    rcases hg with rfl | hg
    · exact TrFp.plain t _ a b c ht k hk
    · exact RowFp.plain bl (off + 3) ts fs hr g hg k hk
end
theorem KidsFp.plain {w : World} {T : TypeId} {ks : List Tr} {fp : List Nat} {c : Value} (h : KidsFp w T ks fp c) : ∀ k ∈ fp, Pl w k :=
  TrFp.plain (.node 0 0 ks) fp _ _ c (trFp_iff.2 ⟨rfl, rfl, by simp [I64], by simp [I64], h⟩)
theorem Fresh.inP {w : World} {lo : Nat} {ks : List Tr} {c : Value} (h : Fresh w lo ks c) : InP w ks c := by
  obtain ⟨fp, h1, -, -⟩ := h
  exact h1.on h1.plain
end Go.Proofs.Ytpkephkgaflklaa
/-
  THE LAWS' COPY OF A PROGRAM LIES IN PLAIN BLOCKS.
-/
namespace Go.Proofs.Ytpkephkgaflklaa
set_option linter.unusedVariables false
set_option linter.unusedSimpArgs false
open Go.RowKit

/-- plain blocks from lo on -/
def BtP (lo : Nat) (w : World) : Nat → Prop := fun k => lo ≤ k ∧ Pl w k
theorem Pl.set {w : World} {k : Nat} {a : Addr} (h : Pl w k) (hk : k ≠ a.block) (u : Value) : Pl (w.setCell a u) k :=
  ⟨by rw [size_setCell]; exact h.1, by obtain ⟨C, T, e⟩ := h.2; exact ⟨C, T, (Below.heap_setCell _ _ _ _ hk).trans e⟩⟩
theorem KidsOn.setP {w : World} {lo : Nat} {ks : List Tr} {c : Value} (h : KidsOn w (BtP lo w) ks c) {a : Addr} (ha : a.block < lo) (u : Value) : KidsOn (w.setCell a u) (BtP lo (w.setCell a u)) ks c :=
  h.mono (fun k hk => ⟨hk.1, hk.2.set (by have := hk.1; omega) u⟩) (fun k hk => Below.heap_setCell _ _ _ _ (by have := hk.1; omega))
theorem TrOn.setP {w : World} {lo : Nat} {t : Tr} {x y z : Value} (h : TrOn w (BtP lo w) t x y z) {a : Addr} (ha : a.block < lo) (u : Value) : TrOn (w.setCell a u) (BtP lo (w.setCell a u)) t x y z :=
  h.mono (fun k hk => ⟨hk.1, hk.2.set (by have := hk.1; omega) u⟩) (fun k hk => Below.heap_setCell _ _ _ _ (by have := hk.1; omega))
theorem Fresh.btP {w : World} {lo : Nat} {ks : List Tr} {c : Value} (h : Fresh w lo ks c) : KidsOn w (BtP lo w) ks c := by
  obtain ⟨fp, h1, h2, h3⟩ := h
  exact h1.on fun k hk => ⟨h3 k hk, h1.plain k hk⟩
theorem row_plain {w : World} {b n : Nat} {T : TypeId} {f : Nat → Value} (h : w.rowIs b T n f) : ∃ C T', w.heap[b]? = some (.cells C T' (0, 0)) := by
  obtain ⟨C, h1, -⟩ := h
  exact ⟨C, T, h1⟩
/-- programs that lie in plain blocks -/
abbrev DInP (w : World) (ds : List Df) (v : Value) : Prop := DefsOn w (Pl w) ds v
theorem DefsOn.nextP {w w' : World} {ds : List Df} {v : Value} (h : DInP w ds v) (hb : Below w.heap.size w w') : DInP w' ds v := h.mono (fun k hk => hk.next hb) (fun k hk => hb.block k hk.1)
theorem DefsOn.inP {w : World} {ds : List Df} {v : Value} (h : DInP w ds v) : DIn w ds v := h.mono (fun k hk => hk.1) (fun _ _ => rfl)
theorem DefsOn.plain {w : World} {lo : Nat} {ds : List Df} {v : Value} (h : DefsOn w (BtP lo w) ds v) : DInP w ds v := h.mono (fun k hk => hk.2) (fun _ _ => rfl)
/-- the body of function i, in plain blocks -/
theorem DefsOn.atP {w : World} {ds : List Df} {ad : Option Addr} {n cap : Nat} (h : DInP w ds (.slice ad n cap)) (i : Nat) (hi : i < ds.length) :
    ∃ bl off c, ad = some ⟨bl, off, none⟩ ∧ w.cell? ⟨bl, off + i * 4 + 3, none⟩ = some c ∧ InP w ds[i].2.kids c := by
  obtain ⟨ad', cap', he, -, -, hr⟩ := h
  cases he
  rcases hr with rfl | ⟨bl, off, rfl, -, r⟩
  · simp at hi
  obtain ⟨a, b, c, e, h1, h2, h3, h4, rfl, g2, g3⟩ := r i hi
  obtain ⟨rfl, rfl, g5, g6, g7⟩ := trOn_iff.1 g3
  exact ⟨bl, off, e, rfl, h4, g7⟩

/-! ### The copy -/
def NewDfP (a o n : Int) (ks : List Tr) (w : World) (e : Ending) (w' : World) : Prop := ∃ v, e = .returned (.agg #[.int .i64 a, .int .i64 o, .int .i64 n, v]) ∧ KidsOn w' (BtP w.heap.size w') ks v ∧ Below w.heap.size w w'
def NewDefsP (ds : List Df) (w : World) (e : Ending) (w' : World) : Prop := ∃ v, e = .returned v ∧ DefsOn w' (BtP w.heap.size w') ds v ∧ Below w.heap.size w w'

/-- what holds of the copy of a program behind k rounds -/
def ToDRelP (ds : List Df) (w : World) (k : Nat) (wr : World) : Prop :=
  ∃ f : Nat → Value, wr.rowIs w.heap.size 33 (ds.length * 4) f ∧ (∀ j (_ : j < k) (hj : j < ds.length), DfOn wr (BtP (w.heap.size + 1) wr) ds[j] (f (j * 4)) (f (j * 4 + 1)) (f (j * 4 + 2)) (f (j * 4 + 3))) ∧ Below w.heap.size w wr

theorem toDRel_startP (ds : List Df) (w : World) (C : Array Value) (h : C.size = ds.length * 4) : ToDRelP ds w 0 (w.alloc (.cells C 33)) := by
  refine ⟨fun i => C.getD i undef, ⟨C, Deep.blk_alloc_new _ _, h, fun i hi => ?_⟩, fun j hj => absurd hj (by omega), (Below.refl _ _).alloc (Nat.le_refl _) _⟩
  simp [Array.getElem?_eq_getElem (h ▸ hi : i < C.size), Array.getD, (h ▸ hi : i < C.size)]

theorem toDRel_stepP (ds : List Df) (w wr w1 : World) (k : Nat) (hk : k < ds.length) (h : ToDRelP ds w k wr) (v : Value) (hb : Below wr.heap.size wr w1) (hv : KidsOn w1 (BtP wr.heap.size w1) (ds[k]).2.kids v) (ha : I64 (ds[k]).1) (ho : I64 (ds[k]).2.op) (hn : I64 (ds[k]).2.num) :
    ToDRelP ds w (k + 1) (stD w1 w.heap.size k ds[k] v) := by
  unfold stD
  obtain ⟨f, hr, ht, hbw⟩ := h
  have hlt := hr.lt
  have hr1 : w1.rowIs w.heap.size 33 (ds.length * 4) f := hr.of_block (hb.block _ hlt)
  have hsz := hb.size
  have keep : ∀ (t : Tr) (a b c : Value), TrOn w1 (BtP (w.heap.size + 1) w1) t a b c → TrOn ((((w1.setCell ⟨w.heap.size, k * 4, none⟩ (.int .i64 ds[k].1)).setCell ⟨w.heap.size, k * 4 + 1, none⟩ (.int .i64 ds[k].2.op)).setCell ⟨w.heap.size, k * 4 + 2, none⟩ (.int .i64 ds[k].2.num)).setCell ⟨w.heap.size, k * 4 + 3, none⟩ v) (BtP (w.heap.size + 1) ((((w1.setCell ⟨w.heap.size, k * 4, none⟩ (.int .i64 ds[k].1)).setCell ⟨w.heap.size, k * 4 + 1, none⟩ (.int .i64 ds[k].2.op)).setCell ⟨w.heap.size, k * 4 + 2, none⟩ (.int .i64 ds[k].2.num)).setCell ⟨w.heap.size, k * 4 + 3, none⟩ v)) t a b c :=
    fun t a b c g => (((g.setP (by simp) _).setP (by simp) _).setP (by simp) _).setP (by simp) _
  refine ⟨_, (((hr1.set (k * 4) _).set (k * 4 + 1) _).set (k * 4 + 2) _).set (k * 4 + 3) _, fun j hj hjl => ?_, ?_⟩
  · by_cases hjk : j = k
    · subst hjk
      have : TrOn w1 (BtP (w.heap.size + 1) w1) ds[j].2 (.int .i64 (ds[j]).2.op) (.int .i64 (ds[j]).2.num) v := trOn_iff.2 ⟨rfl, rfl, ho, hn, hv.mono (fun k hk => ⟨by have := hk.1; omega, hk.2⟩) (fun _ _ => rfl)⟩
      refine ⟨by simp, ha, ?_⟩
      simpa using keep _ _ _ _ this
    · obtain ⟨h01, h02, h03⟩ := ht j (by omega) hjl
      have h1 : TrOn w1 (BtP (w.heap.size + 1) w1) ds[j].2 (f (j * 4 + 1)) (f (j * 4 + 2)) (f (j * 4 + 3)) := h03.mono (fun k hk => ⟨hk.1, hk.2.next hb⟩) (fun k hk => hb.block k hk.2.1)
      have h2 := keep _ _ _ _ h1
      have e1 : ∀ m, m < 4 → j * 4 + m ≠ k * 4 + 3 ∧ j * 4 + m ≠ k * 4 + 2 ∧ j * 4 + m ≠ k * 4 + 1 ∧ j * 4 + m ≠ k * 4 := fun m hm => by omega
      have a0 := e1 0 (by omega)
      have a1 := e1 1 (by omega)
      have a2 := e1 2 (by omega)
      have a3 := e1 3 (by omega)
      simp only [Nat.add_zero] at a0
      refine ⟨?_, h02, ?_⟩
      · simp only [if_neg a0.1, if_neg a0.2.1, if_neg a0.2.2.1, if_neg a0.2.2.2]; exact h01
      · simp only [if_neg a1.1, if_neg a1.2.1, if_neg a1.2.2.1, if_neg a1.2.2.2, if_neg a2.1, if_neg a2.2.1, if_neg a2.2.2.1, if_neg a2.2.2.2, if_neg a3.1, if_neg a3.2.1, if_neg a3.2.2.1, if_neg a3.2.2.2]; exact h2
  · exact ((((hbw.trans (hb.mono (Nat.le_of_lt hlt))).setCell (by simp) _).setCell (by simp) _).setCell (by simp) _).setCell (by simp) _

theorem toDRel_endP (ds : List Df) (w wr : World) (h : ToDRelP ds w ds.length wr) (hl : ds.length ≤ 1048576) : NewDefsP ds w (.returned (.slice (some ⟨w.heap.size, 0, none⟩) ds.length ds.length)) wr := by
  obtain ⟨f, hr, ht, hbw⟩ := h
  have hlt := hr.lt
  refine ⟨_, rfl, ⟨_, _, rfl, Nat.le_refl _, by unfold maxLen; omega, Or.inr ⟨_, _, rfl, ⟨Nat.le_refl _, hlt, row_plain hr⟩, fun i hi => ?_⟩⟩, hbw⟩
  obtain ⟨g1, g2, g3⟩ := ht i hi hi
  refine ⟨f (i * 4), f (i * 4 + 1), f (i * 4 + 2), f (i * 4 + 3), ?_, ?_, ?_, ?_, g1, g2, g3.mono (fun k hk => ⟨by have := hk.1; omega, hk.2⟩) (fun _ _ => rfl)⟩
  · simpa using hr.cell (i := i * 4) (by omega)
  · simpa [Nat.zero_add] using hr.cell (i := i * 4 + 1) (by omega)
  · simpa [Nat.zero_add] using hr.cell (i := i * 4 + 2) (by omega)
  · simpa [Nat.zero_add] using hr.cell (i := i * 4 + 3) (by omega)

end Go.Proofs.Ytpkephkgaflklaa
/-
  THE PROGRAM's stillNeeded AND NeedHolds.
-/
namespace Go.Proofs.Ytpkephkgaflklaa
set_option linter.unusedVariables false
set_option linter.unusedSimpArgs false
open Go.RowKit

/-- a body in plain blocks, and what needs says of it -/
theorem body_inP {ds : List Df} {need : List (List Bool)} {adp : Option Addr} {capp : Nat} {q : Value} {w : World} (hp : DInP w ds (.slice adp ds.length capp)) (hn : NIn w need q) (hpr : progB ds = true) (hz : szL (bodies ds) ≤ 1048576) (i : Nat) (hi : i < ds.length) :
    ∃ bl off adk capk, adp = some ⟨bl, off, none⟩ ∧ w.cell? ⟨bl, off + i * 4, none⟩ = some (.int .i64 ds[i].1) ∧ w.cell? ⟨bl, off + i * 4 + 1, none⟩ = some (.int .i64 ds[i].2.op) ∧ w.cell? ⟨bl, off + i * 4 + 2, none⟩ = some (.int .i64 ds[i].2.num) ∧ w.cell? ⟨bl, off + i * 4 + 3, none⟩ = some (.slice adk ds[i].2.kids.length capk) ∧
      ∀ (W : World) (v : Int), Below w.heap.size w W → Calls Try.prog 66 #[.agg #[.int .i64 ds[i].2.op, .int .i64 ds[i].2.num, .slice adk ds[i].2.kids.length capk], .int .i64 v, q] W fun e w' => e = .returned (.bool (needB need v ds[i].2)) ∧ Below W.heap.size W w' := by
  obtain ⟨bl, off, c, rfl, c0, c1, c2, c3, -, i1, i2, hk⟩ := hp.inP.at i hi
  obtain ⟨bl', off', c', he, c4, hkP⟩ := hp.atP i hi
  simp only [Option.some.injEq, Addr.mk.injEq, and_true] at he
  obtain ⟨rfl, rfl⟩ := he
  rw [c3] at c4
  simp only [Option.some.injEq] at c4
  subst c4
  obtain ⟨adk, capk, rfl, -, -, -⟩ := id hk
  refine ⟨bl, off, adk, capk, rfl, c0, c1, c2, c3, fun W v hW => needs_calls need v _ (progB_body hpr i hi) ?_ _ _ W (hkP.nextP hW) (hn.next hW) ⟨i1, i2⟩⟩
  have := szT_lt_szL (bodies ds) i (by rw [bodies_length]; exact hi)
  have e : (bodies ds)[i]'(by rw [bodies_length]; exact hi) = ds[i].2 := by simp [bodies]
  rw [e] at this
  omega

set_option maxRecDepth 100000 in
set_option maxHeartbeats 1600000 in
theorem still1_calls (ds : List Df) (need : List (List Bool)) (p q : Value) (nb pb : Nat) (w : World) (hp : DInP w ds p) (hn : NIn w need q) (hpr : progB ds = true) (hz : szL (bodies ds) ≤ 1048576) (hf : FitN ds need)
    (hcn : w.cell? ⟨nb, 0, none⟩ = some q) (hcp : w.cell? ⟨pb, 0, none⟩ = some p) (i v : Nat) (hi : i < ds.length) (hv : v < arN ds i) :
    Calls Try.prog 65 #[.int .i64 (i : Int), .int .i64 (v : Int), .pointer (some ⟨nb, 0, none⟩), .pointer (some ⟨pb, 0, none⟩)] w fun e w' => e = .returned (.bool (stillF ds need i v)) ∧ Below w.heap.size w w' := by
  have hi2 : i < need.length := by rw [hf.1]; exact hi
  have hv2 : v < need[i].length := by rw [← fit_arN hf hi hi2]; exact hv
  obtain ⟨adp, capp, rfl, hpl, hpm, -⟩ := id hp
  obtain ⟨adn, capn, rfl, hnl, hnm, -⟩ := id hn
  unfold maxLen at hpm hnm
  obtain ⟨bl, off, adk, capk, rfl, c0, c1, c2, c3, hc⟩ := body_inP hp hn hpr hz i hi
  obtain ⟨nb', noff, rv, rfl, hnb, n0, hrw⟩ := hn.at i hi2
  obtain ⟨adr, capr, rfl, hrl, hrm, -⟩ := id hrw
  unfold maxLen at hrm
  obtain ⟨rb, roff, rfl, hrb, r0⟩ := hrw.at v hv2
  have HV : Hid (stillF ds need i v = (need[i][v] && needB need (v : Int) ds[i].2)) := by unfold Hid stillF; rw [bitN_at hi2 hv2, bodyN_at hi]
  rw [HV.out]
  obtain ⟨b, hb⟩ : ∃ b, b = need[i][v] := ⟨_, rfl⟩
  obtain ⟨x, hx⟩ : ∃ x, x = needB need (v : Int) ds[i].2 := ⟨_, rfl⟩
  obtain ⟨o, ho⟩ : ∃ o, o = ds[i].2.op := ⟨_, rfl⟩
  obtain ⟨m, hm⟩ : ∃ m, m = ds[i].2.num := ⟨_, rfl⟩
  obtain ⟨z, hz9⟩ : ∃ z, z = ds[i].2.kids.length := ⟨_, rfl⟩
  obtain ⟨rl, hrl9⟩ : ∃ rl, rl = need[i].length := ⟨_, rfl⟩
  have hcv := fun W h => hc W (v : Int) h
  rw [← hb] at r0
  rw [← hx, ← ho, ← hm, ← hz9] at hcv
  rw [← ho] at c1
  rw [← hm] at c2
  rw [← hz9] at c3
  rw [← hrl9] at n0 hv2
  rw [← hb, ← hx]
  have HC := mkHid hcv
  have hiI : (i : Int) < (ds.length : Int) := by omega
  have hi2I : (i : Int) < (need.length : Int) := by omega
  have hvI : (v : Int) < (rl : Int) := by omega
  have k0 := cell_regrown hcn
  have k1 := cell_regrown hcp
  have k2 := cell_regrown n0
  have k3 := cell_regrown r0
  have k4 := cell_regrown c1
  have k5 := cell_regrown c2
  have k6 := cell_regrown c3
  clear hp hn hpr hz hf hc hb hx ho hm hz9 HV hcv hrw hnb hrb c0 hrl9 hrl
  cases b with
  | false =>
    clear k4 k5 k6 c1 c2 c3
    go_enter Try.func65, Try.ntmps65
    go_wp2_with fail
    refine wp_region_quiet_below (by kernel_rfl) (by kernel_rfl) ?_
    repeat (any_goals (first | go_big_quiet_step (fail) | quiet_step (fail)))
    refine wpQuiet_nil ?_
    intro _ hw'
    obtain ⟨⟨dq, osq⟩, hw''⟩ := hw'
    subst hw''
    clear k0 k1 k2 k3
    go_wp2_with fail
    go_ret
    exact ⟨rfl, below_regrown _ _ _⟩
  | true =>
    rw [Bool.true_and]
    go_enter Try.func65, Try.ntmps65
    go_wp2_with fail
    refine wp_region_quiet_below (by kernel_rfl) (by kernel_rfl) ?_
    repeat (any_goals (first | go_big_quiet_step (exact quietB (fun W h => HC.out W h) _ _) | quiet_step (exact quietB (fun W h => HC.out W h) _ _)))
    refine wpQuiet_nil ?_
    intro _ hw'
    obtain ⟨⟨dq, osq⟩, hw''⟩ := hw'
    subst hw''
    clear k0 k1 k2 k3 k4 k5 k6
    go_wp2_with fail
    go_ret
    exact ⟨rfl, below_regrown _ _ _⟩

set_option maxRecDepth 100000 in
set_option maxHeartbeats 1600000 in
theorem still_calls (ds : List Df) (need : List (List Bool)) (p q : Value) (w : World) (hp : DInP w ds p) (hn : NIn w need q) (hpr : progB ds = true) (hz : szL (bodies ds) ≤ 1048576) (hf : FitN ds need) :
    Calls Try.prog 29 #[p, q] w (NewN (gridN ds (stillF ds need)) w) := by
  obtain ⟨adp, capp, rfl, -, -, -⟩ := id hp
  obtain ⟨adn, capn, rfl, -, -, -⟩ := id hn
  obtain ⟨W, hW⟩ : ∃ W, W = (w.alloc (.cells #[.slice adp ds.length capp] 23)).alloc (.cells #[.slice adn need.length capn] 24) := ⟨_, rfl⟩
  have HB : Hid (Below w.heap.size w W) := by rw [hW]; exact ((Below.refl _ _).alloc (Nat.le_refl _) _).alloc (by simp) _
  have hz1 : W.heap.size = w.heap.size + 2 := by rw [hW, Deep.nblk_alloc, Deep.nblk_alloc]
  have b0 : W.heap[w.heap.size]? = some (.cells #[.slice adp ds.length capp] 23) := by rw [hW, Deep.blk_alloc_lt _ _ _ (by rw [Deep.nblk_alloc]; omega)]; exact Deep.blk_alloc_new _ _
  have b1 : W.heap[w.heap.size + 1]? = some (.cells #[.slice adn need.length capn] 24) := by
    rw [hW]
    have h := Deep.blk_alloc_new (w.alloc (.cells #[.slice adp ds.length capp] 23)) (.cells #[.slice adn need.length capn] 24)
    rw [Deep.nblk_alloc] at h
    exact h
  have HO := mkHid (ofStill_calls ds (stillF ds need) _ (w.heap.size + 1) w.heap.size W (hp.inP.next HB.out) (progB_len hpr) (progB_ar hpr) fun W2 i v hb hi hv =>
    still1_calls ds need _ _ (w.heap.size + 1) w.heap.size W2 ((hp.nextP HB.out).nextP hb) ((hn.next HB.out).next hb) hpr hz hf (cell_of_blk ((hb.block _ (by omega)).trans b1) 0 _ rfl) (cell_of_blk ((hb.block _ (by omega)).trans b0) 0 _ rfl) i v hi hv)
  have HW := mkHid hW
  have HZ1 := mkHid hz1
  clear hp hn hpr hz hf hW b0 b1 hz1
  go_enter Try.func29, Try.ntmps29
  go_wp2_with fail
  rw [← HW.out]
  refine HO.out.mono ?_
  rintro e w1 ⟨v, rfl, hv, hb⟩
  have HV1 : Hid (NOwn w1 W.heap.size (gridN ds (stillF ds need)) v) := hv
  have HB1 : Hid (Below w.heap.size w w1) := HB.out.trans (hb.mono HB.out.size)
  have HLO : Hid (w.heap.size ≤ W.heap.size) := HB.out.size
  clear hv hb
  go_wp2_with fail
  go_ret
  exact ⟨_, rfl, HV1.out.down HLO.out, HB1.out⟩

set_option maxRecDepth 100000 in
set_option maxHeartbeats 800000 in
theorem implNeedHolds_calls (ds : List Df) (need : List (List Bool)) (p q : Value) (w : World) (hp : DInP w ds p) (hn : NIn w need q) (hz : szL (bodies ds) ≤ 1048576) :
    Calls Try.prog 8 #[p, q] w fun e w' => e = .returned (.bool (holdsO ds need)) ∧ Below w.heap.size w w' := by
  have HP : Hid (DInP w ds p) := hp
  have HN := mkHid hn
  have HZ := mkHid hz
  obtain ⟨adp, capp, rfl, -, -, -⟩ := hp
  obtain ⟨adn, capn, rfl, -, -, -⟩ := hn
  obtain ⟨r, hr⟩ : ∃ r, r = holdsO ds need := ⟨_, rfl⟩
  rw [← hr]
  have HR := mkHid hr
  clear hr hz
  have HPV := mkHid (implProg_calls ds _ w HP.out.inP)
  cases hpr : progB ds with
  | false =>
    have HV : Hid (r = false) := HR.out.trans (holdsO_prog hpr)
    rw [hpr] at HPV
    clear hpr
    go_enter Try.func8, Try.ntmps8
    go_wp2_with fail
    refine HPV.out.mono ?_
    rintro e w1 ⟨rfl, hb1⟩
    have HB1 := mkHid hb1
    clear hb1
    go_wp2_with fail
    go_ret
    exact ⟨ret_bool HV.out.symm, HB1.out⟩
  | true =>
    have HPR := mkHid hpr
    rw [hpr] at HPV
    clear hpr
    have HEQ := mkHid fun W h => eqFuncA_calls ds need _ _ W (HP.out.inP.next h) (HN.out.next h)
    cases hfi : fitO ds need with
    | false =>
      have HV : Hid (r = false) := HR.out.trans (holdsO_fit fun h => by rw [fitO_yes h] at hfi; cases hfi)
      rw [hfi] at HEQ
      clear hfi
      go_enter Try.func8, Try.ntmps8
      go_wp2_with fail
      refine HPV.out.mono ?_
      rintro e w1 ⟨rfl, hb1⟩
      have HB1 := mkHid hb1
      clear hb1
      go_wp2_with fail
      refine (HEQ.out _ HB1.out).mono ?_
      rintro e w2 ⟨rfl, hb2⟩
      have HB2 : Hid (Below w.heap.size w w2) := HB1.out.trans (hb2.mono HB1.out.size)
      clear hb2
      go_wp2_with fail
      go_ret
      exact ⟨ret_bool HV.out.symm, HB2.out⟩
    | true =>
      have HF := mkHid (fitO_iff hfi)
      rw [hfi] at HEQ
      have HV := mkHid (HR.out.trans (holdsO_still HPR.out HF.out))
      clear hfi
      go_enter Try.func8, Try.ntmps8
      go_wp2_with fail
      refine HPV.out.mono ?_
      rintro e w1 ⟨rfl, hb1⟩
      have HB1 := mkHid hb1
      clear hb1
      go_wp2_with fail
      refine (HEQ.out _ HB1.out).mono ?_
      rintro e w2 ⟨rfl, hb2⟩
      have HB2 : Hid (Below w.heap.size w w2) := HB1.out.trans (hb2.mono HB1.out.size)
      clear hb2
      go_wp2_with fail
      refine (still_calls ds need _ _ w2 (DefsOn.nextP HP.out HB2.out) (HN.out.next HB2.out) HPR.out HZ.out HF.out).mono ?_
      rintro e w3 ⟨v3, rfl, hv3, hb3⟩
      have HB3 : Hid (Below w.heap.size w w3) := HB2.out.trans (hb3.mono HB2.out.size)
      have HQ := mkHid (sameNeed_calls _ need v3 _ w3 hv3.nin (HN.out.next HB3.out))
      clear hb3 hv3
      go_wp2_with fail
      refine HQ.out.mono ?_
      rintro e w4 ⟨rfl, hb4⟩
      have HB4 : Hid (Below w.heap.size w w4) := HB3.out.trans (hb4.mono HB3.out.size)
      clear hb4
      obtain ⟨y, hy⟩ : ∃ y, y = decide (gridN ds (stillF ds need) = need) := ⟨_, rfl⟩
      have HV2 := mkHid (HV.out.trans hy.symm)
      rw [← hy]
      clear hy
      go_wp2_with fail
      go_ret
      exact ⟨ret_bool HV2.out.symm, HB4.out⟩
end Go.Proofs.Ytpkephkgaflklaa
