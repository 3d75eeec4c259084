/-
  THE MODEL's l9Args AND StrictArgs: the greatest needs that hold, in new memory.
-/
import Derived.Test.YtocnkjicmchbdaaStillT
import Derived.Test.YtocnkjicmchbdaaSpecNh
import Derived.Deep.LoopGhost
namespace Go.Proofs.Ytocnkjicmchbdaa
set_option linter.unusedVariables false
set_option linter.unusedSimpArgs false
open Go.RowKit

/-- a row of one's own, as a row -/
theorem own_rowAt {w : World} {lo n : Nat} {v : Value} {r : List Bool} (h : w.ownsRow lo 4 1 v n (r.map .bool)) (hn : r.length = n) (hv : v ≠ .slice none 0 0) : ∃ b cap, v = .slice (some ⟨b, 0, none⟩) n cap ∧ lo ≤ b ∧ RowAt w b cap r := by
  rcases h.2 with ⟨h, -⟩ | ⟨b, cap, cur, rfl, hb, hh, hl, hc, hs, ht⟩
  · exact absurd h hv
  refine ⟨b, cap, rfl, hb, by omega, hc, fun i => cur.getD i undef, ⟨cur, hh, by omega, fun i hi => ?_⟩, fun j hj => ?_⟩
  · simp [Array.getElem?_eq_getElem (show i < cur.size by omega), Array.getD, (show i < cur.size by omega)]
  · have h1 : (r.map Value.bool)[j]? = some (.bool r[j]) := by simp [hj]
    rw [← ht, List.getElem?_take_of_lt (by omega), Array.getElem?_toList] at h1
    show cur.getD j undef = _
    rw [Array.getD_eq_getD_getElem?, h1]
    rfl
theorem infoBo1 : ∃ i z, Try.prog.info? 4 = some i ∧ i.zero = some z ∧ i.size = 1 ∧ i.bytes = 1 ∧ z.cells.size = 1 := by
  obtain ⟨i, hi, hzz⟩ := Option.map_eq_some_iff.1 infoBx
  simp only [Prod.mk.injEq] at hzz
  obtain ⟨hz, hs, hb⟩ := hzz
  exact ⟨i, _, hi, hz, hs, hb, rfl⟩
theorem topN_take (ds : List Df) (k : Nat) (h : k < ds.length) : (topN ds).take (k + 1) = (topN ds).take k ++ [List.replicate ds[k].1.toNat true] := by
  have hk : k < (topN ds).length := by simp [topN]; exact h
  rw [List.take_succ_eq_append_getElem hk]
  simp [topN]
/-- the rows are being made -/
def SgRel (ds : List Df) (w : World) (k : Nat) (v : Value) (wr : World) : Prop := NOwn wr w.heap.size ((topN ds).take k) v ∧ Below w.heap.size w wr
/-- what is true of the need while it shrinks -/
def SgInv (ds : List Df) (w : World) (need : List (List Bool)) (v : Value) (wr : World) : Prop := NOwn wr w.heap.size need v ∧ FitN ds need ∧ (∀ k, HoldN ds k → LeN k need) ∧ Below w.heap.size w wr

set_option maxRecDepth 100000 in
set_option maxHeartbeats 3200000 in
theorem l9Args_calls (ds : List Df) (p : Value) (w : World) (hp : DIn w ds p) (hpr : progB ds = true) (hz : szL (bodies ds) ≤ 1048576) :
    Calls Try.prog 61 #[p] w (NewN (strictA ds) w) := by
  have HP := mkHid hp
  have HPR := mkHid hpr
  have HZ := mkHid hz
  have h6 := progB_len hpr
  have HAR := mkHid (progB_ar hpr)
  obtain ⟨adp, capp, rfl, hpl, hpm, -⟩ := hp
  unfold maxLen at hpm
  clear hpr hz
  obtain ⟨iE, zE, hiE, hzE, hsE, hbE, hcE⟩ := infoE1
  have HE : Hid (Try.prog.info? 74 = some iE ∧ iE.zero = some zE ∧ iE.size = 1 ∧ iE.bytes = 24 ∧ zE.cells.size = 1) := ⟨hiE, hzE, hsE, hbE, hcE⟩
  clear hiE hzE hsE hbE hcE
  obtain ⟨iB, zB, hiB, hzB, hsB, hbB, hcB⟩ := infoBo1
  have HBo : Hid (Try.prog.info? 4 = some iB ∧ iB.zero = some zB ∧ iB.size = 1 ∧ iB.bytes = 1 ∧ zB.cells.size = 1) := ⟨hiB, hzB, hsB, hbB, hcB⟩
  clear hiB hzB hsB hbB hcB
  have HTL : Hid ((topN ds).length = ds.length) := by simp [Hid, topN]
  go_enter Try.func61, Try.ntmps61
  go_wp2_with fail
  go_loopw [3, 4] (fun v i wr => ∃ k : Nat, k ≤ ds.length ∧ i = .int .i64 k ∧ SgRel ds w k v wr) (fun _ i _ => ds.length - (intOf i).toNat)
  case atStart =>
    refine ⟨0, Nat.zero_le _, rfl, NOwn.nil_of ⟨rfl, Or.inr ⟨_, 0, #[], rfl, Nat.le_refl _, Deep.blk_alloc_new _ _, Nat.le_refl _, by unfold maxLen; omega, rfl, rfl⟩⟩, box_below _ _⟩
  case round =>
    obtain ⟨k, hk, rfl, hown, hb⟩ := hrel
    obtain ⟨wo, rfl⟩ : ∃ wo : World, wo = wr := ⟨_, rfl⟩
    have HO := mkHid hown
    have HB := mkHid hb
    clear hown hb
    by_cases hlt : k < ds.length
    · obtain ⟨bl, off, c, rfl, c0, -⟩ := HP.out.at k hlt
      have hd4 := HAR.out _ (List.getElem_mem hlt)
      obtain ⟨n, hn⟩ : ∃ n : Nat, ds[k].1 = (n : Int) := ⟨ds[k].1.toNat, by omega⟩
      have hn4 : n ≤ 4 := by omega
      have HTN : Hid (List.replicate ds[k].1.toNat true = List.replicate n true) := by rw [hn]; rfl
      rw [hn] at c0
      have C0 : Hid (∀ W, Below w.heap.size w W → W.cell? ⟨bl, off + k * 4, none⟩ = some (.int .i64 (n : Int))) := fun W h => (h.cell (cell_lt c0)).trans c0
      clear hd4 hn c0
      go_wp2_with fail
      go_loopw [5, 6] (fun rv i wr => ∃ v : Nat, v ≤ n ∧ i = .int .i64 v ∧ wr.ownsRow wo.heap.size 4 1 rv v ((List.replicate v true).map .bool) ∧ rv ≠ .slice none 0 0 ∧ Below wo.heap.size wo wr) (fun _ i _ => n - (intOf i).toNat)
      case atStart =>
        refine ⟨0, Nat.zero_le _, rfl, ⟨rfl, Or.inr ⟨_, 0, #[], rfl, Nat.le_refl _, Deep.blk_alloc_new _ _, Nat.le_refl _, by unfold maxLen; omega, rfl, rfl⟩⟩, by simp, box_below _ _⟩
      case round =>
        obtain ⟨v, hv, rfl, hrow, hne, hb⟩ := hrel
        have HRW := mkHid hrow
        have HNE := mkHid hne
        have HBR := mkHid hb
        have HBW : Hid (Below w.heap.size w wr) := HB.out.trans (hb.mono HB.out.size)
        have c0 := C0.out _ HBW.out
        have hsw := hb.size
        have hsb := HB.out.size
        clear hrow hne hb
        by_cases hvl : v < n
        · have HRX : Hid (∀ o, (wr.alloc o).ownsRow wo.heap.size 4 1 u5 v ((List.replicate v true).map .bool)) := fun o => own_keep HRW.out fun j _ hj => Deep.blk_alloc_lt _ _ _ hj
          obtain ⟨xs, hxs⟩ : ∃ xs, xs = (List.replicate v true).map Value.bool := ⟨_, rfl⟩
          have HXS := mkHid hxs
          rw [← hxs] at HRX
          clear hxs
          go_wp2_with (first
            | (at_builtin; refine wpList_append_own _ rfl _ _ 74 rfl wo.heap.size 4 iB zB 1 1 Try.underlying74 HBo.out.1 HBo.out.2.1 HBo.out.2.2.1 HBo.out.2.2.2.1 HBo.out.2.2.2.2 (by decide) u5 v xs rfl (HRX.out _) ⟨wr.heap.size, 0, none⟩ 1 1 [.bool true] rfl rfl (fun j u hu => by rw [WideShapes.add_plain, Nat.zero_add]; exact box_cell wr #[.bool true] _ j u (by simpa using hu)) (fun u hu => by simp only [List.mem_cons, List.not_mem_nil, or_false] at hu; rw [hu]; rfl) (by unfold maxLen; omega) (by omega) (by rw [Deep.nblk_alloc]; omega) ?_; intro v' w3 hown' hgrow hnil; have HX3 := mkHid hown'; have HG3 := mkHid hgrow; have HN3 : Hid (v' ≠ .slice none 0 0) := (fun e => HNE.out (hnil.1 e).1); clear hown' hgrow hnil)
            | go_in)
          have HB3 : Hid (Below wo.heap.size wo w3) := by
            have hbw := HBR.out
            have hg := HG3.out
            refine ⟨by rw [hg.os]; exact hbw.os, by rw [hg.tape]; exact hbw.tape, by rw [hg.output]; exact hbw.output, Nat.le_trans hbw.size (by have := hg.size; rw [Deep.nblk_alloc] at this; omega), fun j hj => ?_⟩
            exact ((hg.block j (by rw [Deep.nblk_alloc]; omega) (fun e => by have := own_block HRW.out e; omega)).trans (Deep.blk_alloc_lt _ _ _ (by omega))).trans (hbw.block j hj)
          have HR3 : Hid (w3.ownsRow wo.heap.size 4 1 v' (v + 1) ((List.replicate (v + 1) true).map .bool)) := by
            rw [List.replicate_succ', List.map_append]
            rw [HXS.out] at HX3
            exact HX3.out
          exact ⟨⟨v + 1, by omega, by go_num, HR3.out, HN3.out, HB3.out⟩, by simp [intOf]; omega⟩
        · have hve : v = n := by omega
          obtain ⟨b, cap, hvv, hbl, hrat⟩ := own_rowAt (r := List.replicate v true) HRW.out (by simp) HNE.out
          rw [hve] at hvv hrat
          have HRA := mkHid hrat
          subst hvv
          have HBO := mkHid HBR.out
          obtain ⟨bs, q1, q2, q3, q4⟩ := HO.out
          have Q1 := mkHid q1
          have Q2 := mkHid q2
          have Q3 := mkHid q3
          have Q4 := mkHid q4
          have hkl : ((topN ds).take k).length = k := by rw [List.length_take, HTL.out]; omega
          rw [hkl] at q3
          have HKL := mkHid hkl
          have HOX : Hid (∀ o, (wr.alloc o).ownsRow w.heap.size 74 1 u3 k (cellsN ((topN ds).take k) bs)) := fun o =>
            own_keep q3 fun j _ hj => (Deep.blk_alloc_lt _ _ _ (Nat.lt_of_lt_of_le hj hsw)).trans (HBO.out.block j hj)
          obtain ⟨xs, hxs⟩ : ∃ xs, xs = cellsN ((topN ds).take k) bs := ⟨_, rfl⟩
          have HXS := mkHid hxs
          rw [← hxs] at HOX
          have HX0 := mkHid (HOX.out (.cells #[] 4))
          clear q1 q2 q3 q4 hxs hkl hve hrat
          go_wp2_with (first
            | (at_builtin; refine wpList_append_own _ rfl _ _ 25 rfl w.heap.size 74 iE zE 1 24 Try.underlying25 HE.out.1 HE.out.2.1 HE.out.2.2.1 HE.out.2.2.2.1 HE.out.2.2.2.2 (by decide) u3 k xs rfl (HOX.out _) ⟨wr.heap.size, 0, none⟩ 1 1 [.slice (some ⟨b, 0, none⟩) n cap] rfl rfl (fun j u hu => by rw [WideShapes.add_plain, Nat.zero_add]; exact box_cell wr #[.slice (some ⟨b, 0, none⟩) n cap] _ j u (by simpa using hu)) (fun u hu => by simp only [List.mem_cons, List.not_mem_nil, or_false] at hu; rw [hu]; rfl) (by unfold maxLen; omega) (by omega) (by rw [Deep.nblk_alloc]; omega) ?_; intro v' w3 hown' hgrow hnil; have HX3 := mkHid hown'; have HG3 := mkHid hgrow; clear hown' hgrow hnil)
            | go_in)
          have HN3 : Hid (NOwn w3 w.heap.size ((topN ds).take (k + 1)) v') := by
            rw [topN_take ds k hlt, HTN.out]
            refine NOwn.push (w := wo) (w1 := wr) (b := b) (cap := cap) Q1.out Q2.out Q3.out Q4.out (fun j _ hj => HBO.out.block j hj) hbl (by omega) HRA.out ?_ (fun j hj hne => ?_) hsw
            · rw [HKL.out, List.length_replicate, ← HXS.out]; exact HX3.out
            · exact (HG3.out.block j (by rw [Deep.nblk_alloc]; omega) hne).trans (Deep.blk_alloc_lt _ _ _ hj)
          have HB3 : Hid (Below w.heap.size w w3) := by
            have hbw := HBW.out
            have hg := HG3.out
            refine ⟨by rw [hg.os]; exact hbw.os, by rw [hg.tape]; exact hbw.tape, by rw [hg.output]; exact hbw.output, Nat.le_trans hbw.size (by have := hg.size; rw [Deep.nblk_alloc] at this; omega), fun j hj => ?_⟩
            exact ((hg.block j (by rw [Deep.nblk_alloc]; omega) (fun e => by have := own_block HX0.out e; omega)).trans (Deep.blk_alloc_lt _ _ _ (by omega))).trans (hbw.block j hj)
          exact ⟨⟨k + 1, by omega, by go_num, HN3.out, HB3.out⟩, by simp [intOf]; omega⟩
    · have hke : k = ds.length := by omega
      have HS0 : Hid (SgInv ds w (topN ds) u3 wo) := by
        have h := HO.out
        rw [hke, ← HTL.out, List.take_length] at h
        exact ⟨h, topN_fit fun d hd => (HAR.out d hd).1, topN_great fun d hd => (HAR.out d hd).1, HB.out⟩
      obtain ⟨ado, capo, hof, hol, hom⟩ := HS0.out.1.form
      rw [HTL.out] at hof hol
      subst hof
      have hLE : ∀ (need : List (List Bool)) (W : World), SgInv ds w need (.slice ado ds.length capo) W → need.length = ds.length := fun need W h => h.2.1.1
      have HLE := mkHid hLE
      clear hke hom hLE
      go_wp2_with fail
      go_loopg [7] (truesN (topN ds) + 1) (fun m cv wr => ∃ (need : List (List Bool)) (c : Bool), cv = .bool c ∧ Hid (m = truesN need + (if c then 1 else 0)) ∧ SgInv ds w need (.slice ado ds.length capo) wr ∧ (c = false → HoldN ds need))
      case atStart => exact ⟨topN ds, true, rfl, rfl, HS0.out, fun h => by cases h⟩
      case round =>
        obtain ⟨need, c, rfl, HM, hinv, hst⟩ := hrel
        have HI := mkHid hinv
        have HST := mkHid hst
        clear hinv hst
        obtain ⟨wl, rfl⟩ : ∃ wl : World, wl = wr := ⟨_, rfl⟩
        cases c with
        | false =>
          have HG : Hid (strictA ds = need) := strictA_of HPR.out ⟨HST.out rfl, HI.out.2.2.1⟩
          go_wp2_with fail
          go_ret
          exact ⟨_, rfl, by rw [HG.out]; exact HI.out.1, HI.out.2.2.2⟩
        | true =>
          go_wp2_with fail
          go_loopw [7, 8] (fun cv i wr => ∃ (k : Nat) (nd : List (List Bool)) (c : Bool), k ≤ ds.length ∧ i = .int .i64 k ∧ cv = .bool c ∧ SgInv ds w nd (.slice ado ds.length capo) wr ∧ (c = true → truesN nd < truesN need) ∧ (c = false → nd = need ∧ ∀ j (h : j < ds.length) (h' : j < nd.length), j < k → ∀ (v : Nat) (hv : v < nd[j].length), nd[j][v] = true → needB nd (v : Int) ds[j].2 = true)) (fun _ i _ => ds.length - (intOf i).toNat)
          case atStart => exact ⟨0, need, false, Nat.zero_le _, rfl, rfl, HI.out, (fun h => by cases h), fun _ => ⟨rfl, fun j _ _ h => absurd h (by omega)⟩⟩
          case round =>
            obtain ⟨k, nd, c, hk, rfl, rfl, hinv, hct, hcf⟩ := hrel
            obtain ⟨wm, rfl⟩ : ∃ wm : World, wm = wr := ⟨_, rfl⟩
            have HI2 := mkHid hinv
            have HCT := mkHid hct
            have HCF := mkHid hcf
            clear hinv hct hcf
            by_cases hlt : k < ds.length
            · obtain ⟨bl, off, c', rfl, c0, c1, c2, c3, -, i1, i2, hbk⟩ := HP.out.at k hlt
              obtain ⟨adk, capk, rfl, -, -, -⟩ := id hbk
              have HBK := mkHid hbk
              have HIB := mkHid (And.intro i1 i2)
              have HSZ : Hid (szT ds[k].2 ≤ 1099511627776) := by
                have := szT_lt_szL (bodies ds) k (by rw [bodies_length]; exact hlt)
                have e : (bodies ds)[k]'(by rw [bodies_length]; exact hlt) = ds[k].2 := by simp [bodies]
                rw [e] at this
                have := HZ.out
                unfold Hid
                omega
              have HSH := mkHid (progB_body HPR.out k hlt)
              have hd4 := HAR.out _ (List.getElem_mem hlt)
              obtain ⟨n, hn⟩ : ∃ n : Nat, ds[k].1 = (n : Int) := ⟨ds[k].1.toNat, by omega⟩
              have hn4 : n ≤ 4 := by omega
              have HRL : Hid (∀ (need : List (List Bool)) (h : k < need.length), FitN ds need → need[k].length = n) := fun need h hf => by have := hf.2 k hlt h; omega
              obtain ⟨d, hd⟩ : ∃ d, d = ds[k] := ⟨_, rfl⟩
              have HD := mkHid hd
              rw [hn] at c0
              rw [← hd] at c1 c2 c3 HBK HIB HSZ HSH
              have C : Hid (∀ W, Below w.heap.size w W → W.cell? ⟨bl, off + k * 4, none⟩ = some (.int .i64 (n : Int)) ∧ W.cell? ⟨bl, off + k * 4 + 1, none⟩ = some (.int .i64 d.2.op) ∧ W.cell? ⟨bl, off + k * 4 + 2, none⟩ = some (.int .i64 d.2.num) ∧ W.cell? ⟨bl, off + k * 4 + 3, none⟩ = some (.slice adk d.2.kids.length capk)) := fun W h =>
                ⟨(h.cell (cell_lt c0)).trans c0, (h.cell (cell_lt c1)).trans c1, (h.cell (cell_lt c2)).trans c2, (h.cell (cell_lt c3)).trans c3⟩
              clear c0 c1 c2 c3 i1 i2 hbk hd4 hn hd
              go_wp2_with fail
              go_loopw [7, 9] (fun cv i wr => ∃ (v : Nat) (nx : List (List Bool)) (c : Bool), v ≤ n ∧ i = .int .i64 v ∧ cv = .bool c ∧ SgInv ds w nx (.slice ado ds.length capo) wr ∧ (c = true → truesN nx < truesN need) ∧ (c = false → nx = need ∧ (∀ j (h : j < ds.length) (h' : j < nx.length), j < k → ∀ (v : Nat) (hv : v < nx[j].length), nx[j][v] = true → needB nx (v : Int) ds[j].2 = true) ∧ ∀ (h' : k < nx.length) (u : Nat) (hu : u < nx[k].length), u < v → nx[k][u] = true → needB nx (u : Int) d.2 = true)) (fun _ i _ => n - (intOf i).toNat)
              case atStart => exact ⟨0, nd, c, Nat.zero_le _, rfl, rfl, HI2.out, HCT.out, fun h => ⟨(HCF.out h).1, (HCF.out h).2, fun _ u _ h => absurd h (by omega)⟩⟩
              case round =>
                obtain ⟨v, nx, c, hv, rfl, rfl, hinv, hct, hcf⟩ := hrel
                have HI3 := mkHid hinv
                have HCT3 := mkHid hct
                have HCF3 := mkHid hcf
                obtain ⟨c0, c1, c2, c3⟩ := C.out _ hinv.2.2.2
                have hkn : k < nx.length := by rw [HLE.out _ _ hinv]; exact hlt
                have hrl := HRL.out nx hkn hinv.2.1
                clear hinv hct hcf
                by_cases hvl : v < n
                · have hvx : v < nx[k].length := by omega
                  obtain ⟨b, rb, rc, rfl, hbz, hrb, o0, hra, hst⟩ := HI3.out.1.at k hkn
                  rw [hrl] at o0
                  obtain ⟨x, hx⟩ : ∃ x, x = nx[k][v] := ⟨_, rfl⟩
                  have r0 : wr.cell? ⟨rb, v, none⟩ = some (.bool x) := by
                    obtain ⟨h1, -, fr, hrr, hfr⟩ := hra
                    rw [hrr.cell (i := v) (by omega), hfr v hvx, hx]
                  have HX := mkHid hx
                  have HNX : Hid ((x = true → needB nx (v : Int) d.2 = true) → c = false → nx = need ∧ (∀ j (h : j < ds.length) (h' : j < nx.length), j < k → ∀ (v : Nat) (hv : v < nx[j].length), nx[j][v] = true → needB nx (v : Int) ds[j].2 = true) ∧ ∀ (h' : k < nx.length) (u : Nat) (hu : u < nx[k].length), u < v + 1 → nx[k][u] = true → needB nx (u : Int) d.2 = true) := by
                    intro hxx hc
                    obtain ⟨h1, h2, h3⟩ := HCF3.out hc
                    refine ⟨h1, h2, fun h' u hu hlt hru => ?_⟩
                    by_cases e : u = v
                    · subst e; exact hxx (HX.out.trans hru)
                    · exact h3 h' u hu (by omega) hru
                  have hvr : (v : Int) < (n : Int) := by omega
                  clear hx hra hst hbz
                  cases x with
                  | false =>
                    clear c1 c2 c3
                    go_wp2_with fail
                    go_roundw
                    case rel => exact ⟨v + 1, nx, c, by omega, by go_num, rfl, HI3.out, HCT3.out, HNX.out (fun h => by cases h)⟩
                    case measure => simp [intOf]; omega
                  | true =>
                    have HCC := mkHid (l9In_calls nx (v : Int) d.2 HSH.out HSZ.out _ (.slice (some ⟨b, 0, none⟩) ds.length capo) wr (HBK.out.next HI3.out.2.2.2) HI3.out.1.nin HIB.out)
                    obtain ⟨y, hy⟩ : ∃ y, y = needB nx (v : Int) d.2 := ⟨_, rfl⟩
                    have HY := mkHid hy
                    rw [← hy] at HCC HNX
                    clear hy
                    go_wp2_with fail
                    refine HCC.out.mono ?_
                    rintro e w4 ⟨rfl, hb4⟩
                    have HI4 : Hid (SgInv ds w nx (.slice (some ⟨b, 0, none⟩) ds.length capo) w4) := ⟨HI3.out.1.next hb4, HI3.out.2.1, HI3.out.2.2.1, HI3.out.2.2.2.trans (hb4.mono HI3.out.2.2.2.size)⟩
                    clear hb4 c0 c1 c2 c3 o0 r0
                    cases y with
                    | true =>
                      go_wp2_with fail
                      go_roundw
                      case rel => exact ⟨v + 1, nx, c, by omega, by go_num, rfl, HI4.out, HCT3.out, HNX.out (fun _ => by trivial)⟩
                      case measure => simp [intOf]; omega
                    | false =>
                      obtain ⟨b', rb, rc, he, hbz, hrb, o0, hra, hst⟩ := HI4.out.1.at k hkn
                      simp only [Option.some.injEq, Addr.mk.injEq, and_true] at he
                      subst he
                      rw [hrl] at o0
                      have r0 : w4.cell? ⟨rb, v, none⟩ = some (.bool true) := by
                        obtain ⟨h1, -, fr, hrr, hfr⟩ := hra
                        rw [hrr.cell (i := v) (by omega), hfr v hvx, HX.out]
                      have rf : w4.frozen? ⟨rb, v, none⟩ = false := by
                        obtain ⟨h1, -, fr, hrr, hfr⟩ := hra
                        exact hrr.frozen v
                      have HTR : Hid (truesN (dropN nx k v) + 1 = truesN nx) := dropN_trues hkn hvx HX.out.symm
                      have HNE : Hid (truesN (dropN nx k v) < truesN need) := by
                        have h := HTR.out
                        unfold Hid
                        cases c with
                        | true => have := HCT3.out rfl; omega
                        | false => have := congrArg truesN (HCF3.out rfl).1; omega
                      have HI5 : Hid (SgInv ds w (dropN nx k v) (.slice (some ⟨b, 0, none⟩) ds.length capo) (w4.setCell ⟨rb, v, none⟩ (.bool false))) := by
                        refine ⟨?_, dropN_fit HI4.out.2.1, dropN_great HI4.out.2.1 HI4.out.2.2.1 hkn hlt (by rw [← HD.out]; exact HY.out.symm), HI4.out.2.2.2.setCell hrb _⟩
                        unfold dropN
                        rw [List.getElem?_eq_getElem hkn, Option.getD_some]
                        exact hst v false
                      clear hra hst hbz
                      go_wp2_with fail
                      go_roundw
                      case rel => exact ⟨v + 1, _, true, by omega, by go_num, rfl, HI5.out, fun _ => HNE.out, fun h => by cases h⟩
                      case measure => simp [intOf]; omega
                · have hve : v = n := by omega
                  have HNF : Hid (c = false → nx = need ∧ ∀ j (h : j < ds.length) (h' : j < nx.length), j < k + 1 → ∀ (v : Nat) (hv : v < nx[j].length), nx[j][v] = true → needB nx (v : Int) ds[j].2 = true) := by
                    intro hc
                    obtain ⟨h1, h2, h3⟩ := HCF3.out hc
                    refine ⟨h1, fun j h h' hj u hu hru => ?_⟩
                    by_cases e : j = k
                    · subst e
                      have := h3 h' u hu (by omega) hru
                      rw [HD.out] at this
                      exact this
                    · exact h2 j h h' (by omega) u hu hru
                  clear hve c1 c2 c3
                  go_wp2_with fail
                  go_roundw
                  case rel => exact ⟨k + 1, nx, c, by omega, by go_num, rfl, HI3.out, HCT3.out, HNF.out⟩
                  case measure => simp [intOf]; omega
            · have hke : k = ds.length := by omega
              have HM2 := HM.out
              simp only [if_true] at HM2
              go_wp2_with fail
              go_roundg (truesN nd + (if c then 1 else 0))
              case rel => exact ⟨nd, c, rfl, rfl, HI2.out, fun hc => ⟨HI2.out.2.1, fun j h h' v hv hb => (HCF.out hc).2 j h h' (by omega) v hv hb⟩⟩
              case measure =>
                cases c with
                | true => have := HCT.out rfl; simp; omega
                | false => have := (HCF.out rfl).1; rw [this]; simp; omega

set_option maxHeartbeats 400000 in
theorem specStrictArgs_calls (ds : List Df) (p : Value) (w : World) (hp : DIn w ds p) (hz : szL (bodies ds) ≤ 1048576) :
    Calls Try.prog 18 #[p] w (NewN (strictA ds) w) := by
  have HP := mkHid hp
  have HPV := mkHid (specProg_calls ds _ w hp)
  obtain ⟨adp, capp, rfl, -, -, -⟩ := hp
  cases hpr : progB ds with
  | false =>
    rw [hpr] at HPV
    rw [strictA_no hpr]
    clear hpr
    go_enter Try.func18, Try.ntmps18
    go_wp2_with fail
    refine HPV.out.mono ?_
    rintro e w1 ⟨rfl, hb1⟩
    have HB1 := mkHid hb1
    have HNO : Hid (NOwn (w1.alloc (.cells #[] 74)) w.heap.size [] (.slice (some ⟨w1.heap.size, 0, none⟩) 0 0)) := NOwn.nil_of ⟨rfl, Or.inr ⟨_, 0, #[], rfl, hb1.size, Deep.blk_alloc_new _ _, Nat.le_refl _, by unfold maxLen; omega, rfl, rfl⟩⟩
    clear hb1
    go_wp2_with fail
    go_ret
    exact ⟨_, rfl, HNO.out, HB1.out.alloc HB1.out.size _⟩
  | true =>
    rw [hpr] at HPV
    have HPR := mkHid hpr
    have HZ := mkHid hz
    clear hpr hz
    go_enter Try.func18, Try.ntmps18
    go_wp2_with fail
    refine HPV.out.mono ?_
    rintro e w1 ⟨rfl, hb1⟩
    have HB1 := mkHid hb1
    clear hb1
    go_wp2_with fail
    refine (l9Args_calls ds _ w1 (HP.out.next HB1.out) HPR.out HZ.out).mono ?_
    rintro e w2 ⟨v, rfl, hv, hb2⟩
    have HV2 : Hid (NOwn w2 w.heap.size (strictA ds) v) := hv.down HB1.out.size
    have HB2 : Hid (Below w.heap.size w w2) := HB1.out.trans (hb2.mono HB1.out.size)
    clear hv hb2
    go_wp2_with fail
    go_ret
    exact ⟨_, rfl, HV2.out, HB2.out⟩
end Go.Proofs.Ytocnkjicmchbdaa
