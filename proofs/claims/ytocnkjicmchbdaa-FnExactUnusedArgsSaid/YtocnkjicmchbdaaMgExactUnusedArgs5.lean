/-
  THE MODEL's l9Args AND StrictArgs: the greatest needs that hold, in new memory.
-/
import Derived.Test.YtocnkjicmchbdaaMgExactUnusedArgs4
import Derived.Deep.LoopGhost
import Derived.Test.YtocnkjicmchbdaaMgExactUnusedArgs1
import Derived.Test.YtocnkjicmchbdaaProg
import Derived.Deep.DeepMust
import Derived.Test.YtocnkjicmchbdaaMgExactUnusedArgs2
import Derived.Deep.QuietTactic
import Derived.BigQuiet
import Derived.WalkSmall
import Derived.Test.YtocnkjicmchbdaaMgExactUnusedArgs3
import Derived.Deep.RegionWith
namespace Go.Proofs.Ytocnkjicmchbdaa
set_option linter.unusedVariables false
set_option linter.unusedSimpArgs false
open Go.RowKit

/-- a row of one's own, as a row -/
theorem own_rowAt {w : World} {lo n : Nat} {v : Value} {r : List Bool} (h : w.ownsRow lo 4 1 v n (r.map .bool)) (hn : r.length = n) (hv : v ≠ .slice none 0 0) : ∃ b cap, v = .slice (some ⟨b, 0, none⟩) n cap ∧ lo ≤ b ∧ RowAt w b cap r := by
  rcases h.2 with ⟨h, -⟩ | ⟨b, cap, cur, rfl, hb, hh, hl, hc, hs, ht⟩
  · exact absurd h hv
  refine ⟨b, cap, rfl, hb, by omega, hc, fun i => cur.getD i undef, ⟨cur, hh, by omega, fun i hi => ?_⟩, fun j hj => ?_⟩
  · simp [Array.getElem?_eq_getElem (show i < cur.size by omega), Array.getD, (show i < cur.size by omega)]
  · have h1 : (r.map Value.bool)[j]? = some (.bool r[j]) := by simp [hj]
    rw [← ht, List.getElem?_take_of_lt (by omega), Array.getElem?_toList] at h1
    show cur.getD j undef = _
    rw [Array.getD_eq_getD_getElem?, h1]
    rfl
theorem infoBo1 : ∃ i z, Try.prog.info? 4 = some i ∧ i.zero = some z ∧ i.size = 1 ∧ i.bytes = 1 ∧ z.cells.size = 1 := by
  obtain ⟨i, hi, hzz⟩ := Option.map_eq_some_iff.1 infoBx
  simp only [Prod.mk.injEq] at hzz
  obtain ⟨hz, hs, hb⟩ := hzz
  exact ⟨i, _, hi, hz, hs, hb, rfl⟩
theorem topN_take (ds : List Df) (k : Nat) (h : k < ds.length) : (topN ds).take (k + 1) = (topN ds).take k ++ [List.replicate ds[k].1.toNat true] := by
  have hk : k < (topN ds).length := by simp [topN]; exact h
  rw [List.take_succ_eq_append_getElem hk]
  simp [topN]
/-- the rows are being made -/
def SgRel (ds : List Df) (w : World) (k : Nat) (v : Value) (wr : World) : Prop := NOwn wr w.heap.size ((topN ds).take k) v ∧ Below w.heap.size w wr
/-- what is true of the need while it shrinks -/
def SgInv (ds : List Df) (w : World) (need : List (List Bool)) (v : Value) (wr : World) : Prop := NOwn wr w.heap.size need v ∧ FitN ds need ∧ (∀ k, HoldN ds k → LeN k need) ∧ Below w.heap.size w wr

set_option maxRecDepth 100000 in
set_option maxHeartbeats 3200000 in
theorem l9Args_calls (ds : List Df) (p : Value) (w : World) (hp : DIn w ds p) (hpr : progB ds = true) (hz : szL (bodies ds) ≤ 1048576) :
    Calls Try.prog 61 #[p] w (NewN (strictA ds) w) := by
  have HP := mkHid hp
  have HPR := mkHid hpr
  have HZ := mkHid hz
  have h6 := progB_len hpr
  have HAR := mkHid (progB_ar hpr)
  obtain ⟨adp, capp, rfl, hpl, hpm, -⟩ := hp
  unfold maxLen at hpm
  clear hpr hz
  obtain ⟨iE, zE, hiE, hzE, hsE, hbE, hcE⟩ := infoE1
  have HE : Hid (Try.prog.info? 74 = some iE ∧ iE.zero = some zE ∧ iE.size = 1 ∧ iE.bytes = 24 ∧ zE.cells.size = 1) := ⟨hiE, hzE, hsE, hbE, hcE⟩
  clear hiE hzE hsE hbE hcE
  obtain ⟨iB, zB, hiB, hzB, hsB, hbB, hcB⟩ := infoBo1
  have HBo : Hid (Try.prog.info? 4 = some iB ∧ iB.zero = some zB ∧ iB.size = 1 ∧ iB.bytes = 1 ∧ zB.cells.size = 1) := ⟨hiB, hzB, hsB, hbB, hcB⟩
  clear hiB hzB hsB hbB hcB
  have HTL : Hid ((topN ds).length = ds.length) := by simp [Hid, topN]
  go_enter Try.func61, Try.ntmps61
  go_wp2_with fail
  go_loopw [3, 4] (fun v i wr => ∃ k : Nat, k ≤ ds.length ∧ i = .int .i64 k ∧ SgRel ds w k v wr) (fun _ i _ => ds.length - (intOf i).toNat)
  case atStart =>
    refine ⟨0, Nat.zero_le _, rfl, NOwn.nil_of ⟨rfl, Or.inr ⟨_, 0, #[], rfl, Nat.le_refl _, Deep.blk_alloc_new _ _, Nat.le_refl _, by unfold maxLen; omega, rfl, rfl⟩⟩, box_below _ _⟩
  case round =>
    obtain ⟨k, hk, rfl, hown, hb⟩ := hrel
    obtain ⟨wo, rfl⟩ : ∃ wo : World, wo = wr := ⟨_, rfl⟩
    have HO := mkHid hown
    have HB := mkHid hb
    clear hown hb
    by_cases hlt : k < ds.length
    · obtain ⟨bl, off, c, rfl, c0, -⟩ := HP.out.at k hlt
      have hd4 := HAR.out _ (List.getElem_mem hlt)
      obtain ⟨n, hn⟩ : ∃ n : Nat, ds[k].1 = (n : Int) := ⟨ds[k].1.toNat, by omega⟩
      have hn4 : n ≤ 4 := by omega
      have HTN : Hid (List.replicate ds[k].1.toNat true = List.replicate n true) := by rw [hn]; rfl
      rw [hn] at c0
      have C0 : Hid (∀ W, Below w.heap.size w W → W.cell? ⟨bl, off + k * 4, none⟩ = some (.int .i64 (n : Int))) := fun W h => (h.cell (cell_lt c0)).trans c0
      clear hd4 hn c0
      go_wp2_with fail
      go_loopw [5, 6] (fun rv i wr => ∃ v : Nat, v ≤ n ∧ i = .int .i64 v ∧ wr.ownsRow wo.heap.size 4 1 rv v ((List.replicate v true).map .bool) ∧ rv ≠ .slice none 0 0 ∧ Below wo.heap.size wo wr) (fun _ i _ => n - (intOf i).toNat)
      case atStart =>
        refine ⟨0, Nat.zero_le _, rfl, ⟨rfl, Or.inr ⟨_, 0, #[], rfl, Nat.le_refl _, Deep.blk_alloc_new _ _, Nat.le_refl _, by unfold maxLen; omega, rfl, rfl⟩⟩, by simp, box_below _ _⟩
      case round =>
        obtain ⟨v, hv, rfl, hrow, hne, hb⟩ := hrel
        have HRW := mkHid hrow
        have HNE := mkHid hne
        have HBR := mkHid hb
        have HBW : Hid (Below w.heap.size w wr) := HB.out.trans (hb.mono HB.out.size)
        have c0 := C0.out _ HBW.out
        have hsw := hb.size
        have hsb := HB.out.size
        clear hrow hne hb
        by_cases hvl : v < n
        · have HRX : Hid (∀ o, (wr.alloc o).ownsRow wo.heap.size 4 1 u5 v ((List.replicate v true).map .bool)) := fun o => own_keep HRW.out fun j _ hj => Deep.blk_alloc_lt _ _ _ hj
          obtain ⟨xs, hxs⟩ : ∃ xs, xs = (List.replicate v true).map Value.bool := ⟨_, rfl⟩
          have HXS := mkHid hxs
          rw [← hxs] at HRX
          clear hxs
          go_wp2_with (first
            | (at_builtin; refine wpList_append_own _ rfl _ _ 74 rfl wo.heap.size 4 iB zB 1 1 Try.underlying74 HBo.out.1 HBo.out.2.1 HBo.out.2.2.1 HBo.out.2.2.2.1 HBo.out.2.2.2.2 (by decide) u5 v xs rfl (HRX.out _) ⟨wr.heap.size, 0, none⟩ 1 1 [.bool true] rfl rfl (fun j u hu => by rw [WideShapes.add_plain, Nat.zero_add]; exact box_cell wr #[.bool true] _ j u (by simpa using hu)) (fun u hu => by simp only [List.mem_cons, List.not_mem_nil, or_false] at hu; rw [hu]; rfl) (by unfold maxLen; omega) (by omega) (by rw [Deep.nblk_alloc]; omega) ?_; intro v' w3 hown' hgrow hnil; have HX3 := mkHid hown'; have HG3 := mkHid hgrow; have HN3 : Hid (v' ≠ .slice none 0 0) := (fun e => HNE.out (hnil.1 e).1); clear hown' hgrow hnil)
            | go_in)
          have HB3 : Hid (Below wo.heap.size wo w3) := by
            have hbw := HBR.out
            have hg := HG3.out
            refine ⟨by rw [hg.os]; exact hbw.os, by rw [hg.tape]; exact hbw.tape, by rw [hg.output]; exact hbw.output, Nat.le_trans hbw.size (by have := hg.size; rw [Deep.nblk_alloc] at this; omega), fun j hj => ?_⟩
            exact ((hg.block j (by rw [Deep.nblk_alloc]; omega) (fun e => by have := own_block HRW.out e; omega)).trans (Deep.blk_alloc_lt _ _ _ (by omega))).trans (hbw.block j hj)
          have HR3 : Hid (w3.ownsRow wo.heap.size 4 1 v' (v + 1) ((List.replicate (v + 1) true).map .bool)) := by
            rw [List.replicate_succ', List.map_append]
            rw [HXS.out] at HX3
            exact HX3.out
          exact ⟨⟨v + 1, by omega, by go_num, HR3.out, HN3.out, HB3.out⟩, by simp [intOf]; omega⟩
        · have hve : v = n := by omega
          obtain ⟨b, cap, hvv, hbl, hrat⟩ := own_rowAt (r := List.replicate v true) HRW.out (by simp) HNE.out
          rw [hve] at hvv hrat
          have HRA := mkHid hrat
          subst hvv
          have HBO := mkHid HBR.out
          obtain ⟨bs, q1, q2, q3, q4⟩ := HO.out
          have Q1 := mkHid q1
          have Q2 := mkHid q2
          have Q3 := mkHid q3
          have Q4 := mkHid q4
          have hkl : ((topN ds).take k).length = k := by rw [List.length_take, HTL.out]; omega
          rw [hkl] at q3
          have HKL := mkHid hkl
          have HOX : Hid (∀ o, (wr.alloc o).ownsRow w.heap.size 74 1 u3 k (cellsN ((topN ds).take k) bs)) := fun o =>
            own_keep q3 fun j _ hj => (Deep.blk_alloc_lt _ _ _ (Nat.lt_of_lt_of_le hj hsw)).trans (HBO.out.block j hj)
          obtain ⟨xs, hxs⟩ : ∃ xs, xs = cellsN ((topN ds).take k) bs := ⟨_, rfl⟩
          have HXS := mkHid hxs
          rw [← hxs] at HOX
          have HX0 := mkHid (HOX.out (.cells #[] 4))
          clear q1 q2 q3 q4 hxs hkl hve hrat
          go_wp2_with (first
            | (at_builtin; refine wpList_append_own _ rfl _ _ 25 rfl w.heap.size 74 iE zE 1 24 Try.underlying25 HE.out.1 HE.out.2.1 HE.out.2.2.1 HE.out.2.2.2.1 HE.out.2.2.2.2 (by decide) u3 k xs rfl (HOX.out _) ⟨wr.heap.size, 0, none⟩ 1 1 [.slice (some ⟨b, 0, none⟩) n cap] rfl rfl (fun j u hu => by rw [WideShapes.add_plain, Nat.zero_add]; exact box_cell wr #[.slice (some ⟨b, 0, none⟩) n cap] _ j u (by simpa using hu)) (fun u hu => by simp only [List.mem_cons, List.not_mem_nil, or_false] at hu; rw [hu]; rfl) (by unfold maxLen; omega) (by omega) (by rw [Deep.nblk_alloc]; omega) ?_; intro v' w3 hown' hgrow hnil; have HX3 := mkHid hown'; have HG3 := mkHid hgrow; clear hown' hgrow hnil)
            | go_in)
          have HN3 : Hid (NOwn w3 w.heap.size ((topN ds).take (k + 1)) v') := by
            rw [topN_take ds k hlt, HTN.out]
            refine NOwn.push (w := wo) (w1 := wr) (b := b) (cap := cap) Q1.out Q2.out Q3.out Q4.out (fun j _ hj => HBO.out.block j hj) hbl (by omega) HRA.out ?_ (fun j hj hne => ?_) hsw
            · rw [HKL.out, List.length_replicate, ← HXS.out]; exact HX3.out
            · exact (HG3.out.block j (by rw [Deep.nblk_alloc]; omega) hne).trans (Deep.blk_alloc_lt _ _ _ hj)
          have HB3 : Hid (Below w.heap.size w w3) := by
            have hbw := HBW.out
            have hg := HG3.out
            refine ⟨by rw [hg.os]; exact hbw.os, by rw [hg.tape]; exact hbw.tape, by rw [hg.output]; exact hbw.output, Nat.le_trans hbw.size (by have := hg.size; rw [Deep.nblk_alloc] at this; omega), fun j hj => ?_⟩
            exact ((hg.block j (by rw [Deep.nblk_alloc]; omega) (fun e => by have := own_block HX0.out e; omega)).trans (Deep.blk_alloc_lt _ _ _ (by omega))).trans (hbw.block j hj)
          exact ⟨⟨k + 1, by omega, by go_num, HN3.out, HB3.out⟩, by simp [intOf]; omega⟩
    · have hke : k = ds.length := by omega
      have HS0 : Hid (SgInv ds w (topN ds) u3 wo) := by
        have h := HO.out
        rw [hke, ← HTL.out, List.take_length] at h
        exact ⟨h, topN_fit fun d hd => (HAR.out d hd).1, topN_great fun d hd => (HAR.out d hd).1, HB.out⟩
      obtain ⟨ado, capo, hof, hol, hom⟩ := HS0.out.1.form
      rw [HTL.out] at hof hol
      subst hof
      have hLE : ∀ (need : List (List Bool)) (W : World), SgInv ds w need (.slice ado ds.length capo) W → need.length = ds.length := fun need W h => h.2.1.1
      have HLE := mkHid hLE
      clear hke hom hLE
      go_wp2_with fail
      go_loopg [7] (truesN (topN ds) + 1) (fun m cv wr => ∃ (need : List (List Bool)) (c : Bool), cv = .bool c ∧ Hid (m = truesN need + (if c then 1 else 0)) ∧ SgInv ds w need (.slice ado ds.length capo) wr ∧ (c = false → HoldN ds need))
      case atStart => exact ⟨topN ds, true, rfl, rfl, HS0.out, fun h => by cases h⟩
      case round =>
        obtain ⟨need, c, rfl, HM, hinv, hst⟩ := hrel
        have HI := mkHid hinv
        have HST := mkHid hst
        clear hinv hst
        obtain ⟨wl, rfl⟩ : ∃ wl : World, wl = wr := ⟨_, rfl⟩
        cases c with
        | false =>
          have HG : Hid (strictA ds = need) := strictA_of HPR.out ⟨HST.out rfl, HI.out.2.2.1⟩
          go_wp2_with fail
          go_ret
          exact ⟨_, rfl, by rw [HG.out]; exact HI.out.1, HI.out.2.2.2⟩
        | true =>
          go_wp2_with fail
          go_loopw [7, 8] (fun cv i wr => ∃ (k : Nat) (nd : List (List Bool)) (c : Bool), k ≤ ds.length ∧ i = .int .i64 k ∧ cv = .bool c ∧ SgInv ds w nd (.slice ado ds.length capo) wr ∧ (c = true → truesN nd < truesN need) ∧ (c = false → nd = need ∧ ∀ j (h : j < ds.length) (h' : j < nd.length), j < k → ∀ (v : Nat) (hv : v < nd[j].length), nd[j][v] = true → needB nd (v : Int) ds[j].2 = true)) (fun _ i _ => ds.length - (intOf i).toNat)
          case atStart => exact ⟨0, need, false, Nat.zero_le _, rfl, rfl, HI.out, (fun h => by cases h), fun _ => ⟨rfl, fun j _ _ h => absurd h (by omega)⟩⟩
          case round =>
            obtain ⟨k, nd, c, hk, rfl, rfl, hinv, hct, hcf⟩ := hrel
            obtain ⟨wm, rfl⟩ : ∃ wm : World, wm = wr := ⟨_, rfl⟩
            have HI2 := mkHid hinv
            have HCT := mkHid hct
            have HCF := mkHid hcf
            clear hinv hct hcf
            by_cases hlt : k < ds.length
            · obtain ⟨bl, off, c', rfl, c0, c1, c2, c3, -, i1, i2, hbk⟩ := HP.out.at k hlt
              obtain ⟨adk, capk, rfl, -, -, -⟩ := id hbk
              have HBK := mkHid hbk
              have HIB := mkHid (And.intro i1 i2)
              have HSZ : Hid (szT ds[k].2 ≤ 1099511627776) := by
                have := szT_lt_szL (bodies ds) k (by rw [bodies_length]; exact hlt)
                have e : (bodies ds)[k]'(by rw [bodies_length]; exact hlt) = ds[k].2 := by simp [bodies]
                rw [e] at this
                have := HZ.out
                unfold Hid
                omega
              have HSH := mkHid (progB_body HPR.out k hlt)
              have hd4 := HAR.out _ (List.getElem_mem hlt)
              obtain ⟨n, hn⟩ : ∃ n : Nat, ds[k].1 = (n : Int) := ⟨ds[k].1.toNat, by omega⟩
              have hn4 : n ≤ 4 := by omega
              have HRL : Hid (∀ (need : List (List Bool)) (h : k < need.length), FitN ds need → need[k].length = n) := fun need h hf => by have := hf.2 k hlt h; omega
              obtain ⟨d, hd⟩ : ∃ d, d = ds[k] := ⟨_, rfl⟩
              have HD := mkHid hd
              rw [hn] at c0
              rw [← hd] at c1 c2 c3 HBK HIB HSZ HSH
              have C : Hid (∀ W, Below w.heap.size w W → W.cell? ⟨bl, off + k * 4, none⟩ = some (.int .i64 (n : Int)) ∧ W.cell? ⟨bl, off + k * 4 + 1, none⟩ = some (.int .i64 d.2.op) ∧ W.cell? ⟨bl, off + k * 4 + 2, none⟩ = some (.int .i64 d.2.num) ∧ W.cell? ⟨bl, off + k * 4 + 3, none⟩ = some (.slice adk d.2.kids.length capk)) := fun W h =>
                ⟨(h.cell (cell_lt c0)).trans c0, (h.cell (cell_lt c1)).trans c1, (h.cell (cell_lt c2)).trans c2, (h.cell (cell_lt c3)).trans c3⟩
              clear c0 c1 c2 c3 i1 i2 hbk hd4 hn hd
              go_wp2_with fail
              go_loopw [7, 9] (fun cv i wr => ∃ (v : Nat) (nx : List (List Bool)) (c : Bool), v ≤ n ∧ i = .int .i64 v ∧ cv = .bool c ∧ SgInv ds w nx (.slice ado ds.length capo) wr ∧ (c = true → truesN nx < truesN need) ∧ (c = false → nx = need ∧ (∀ j (h : j < ds.length) (h' : j < nx.length), j < k → ∀ (v : Nat) (hv : v < nx[j].length), nx[j][v] = true → needB nx (v : Int) ds[j].2 = true) ∧ ∀ (h' : k < nx.length) (u : Nat) (hu : u < nx[k].length), u < v → nx[k][u] = true → needB nx (u : Int) d.2 = true)) (fun _ i _ => n - (intOf i).toNat)
              case atStart => exact ⟨0, nd, c, Nat.zero_le _, rfl, rfl, HI2.out, HCT.out, fun h => ⟨(HCF.out h).1, (HCF.out h).2, fun _ u _ h => absurd h (by omega)⟩⟩
              case round =>
                obtain ⟨v, nx, c, hv, rfl, rfl, hinv, hct, hcf⟩ := hrel
                have HI3 := mkHid hinv
                have HCT3 := mkHid hct
                have HCF3 := mkHid hcf
                obtain ⟨c0, c1, c2, c3⟩ := C.out _ hinv.2.2.2
                have hkn : k < nx.length := by rw [HLE.out _ _ hinv]; exact hlt
                have hrl := HRL.out nx hkn hinv.2.1
                clear hinv hct hcf
                by_cases hvl : v < n
                · have hvx : v < nx[k].length := by omega
                  obtain ⟨b, rb, rc, rfl, hbz, hrb, o0, hra, hst⟩ := HI3.out.1.at k hkn
                  rw [hrl] at o0
                  obtain ⟨x, hx⟩ : ∃ x, x = nx[k][v] := ⟨_, rfl⟩
                  have r0 : wr.cell? ⟨rb, v, none⟩ = some (.bool x) := by
                    obtain ⟨h1, -, fr, hrr, hfr⟩ := hra
                    rw [hrr.cell (i := v) (by omega), hfr v hvx, hx]
                  have HX := mkHid hx
                  have HNX : Hid ((x = true → needB nx (v : Int) d.2 = true) → c = false → nx = need ∧ (∀ j (h : j < ds.length) (h' : j < nx.length), j < k → ∀ (v : Nat) (hv : v < nx[j].length), nx[j][v] = true → needB nx (v : Int) ds[j].2 = true) ∧ ∀ (h' : k < nx.length) (u : Nat) (hu : u < nx[k].length), u < v + 1 → nx[k][u] = true → needB nx (u : Int) d.2 = true) := by
                    intro hxx hc
                    obtain ⟨h1, h2, h3⟩ := HCF3.out hc
                    refine ⟨h1, h2, fun h' u hu hlt hru => ?_⟩
                    by_cases e : u = v
                    · subst e; exact hxx (HX.out.trans hru)
                    · exact h3 h' u hu (by omega) hru
                  have hvr : (v : Int) < (n : Int) := by omega
                  clear hx hra hst hbz
                  cases x with
                  | false =>
                    clear c1 c2 c3
                    go_wp2_with fail
                    go_roundw
                    case rel => exact ⟨v + 1, nx, c, by omega, by go_num, rfl, HI3.out, HCT3.out, HNX.out (fun h => by cases h)⟩
                    case measure => simp [intOf]; omega
                  | true =>
                    have HCC := mkHid (l9In_calls nx (v : Int) d.2 HSH.out HSZ.out _ (.slice (some ⟨b, 0, none⟩) ds.length capo) wr (HBK.out.next HI3.out.2.2.2) HI3.out.1.nin HIB.out)
                    obtain ⟨y, hy⟩ : ∃ y, y = needB nx (v : Int) d.2 := ⟨_, rfl⟩
                    have HY := mkHid hy
                    rw [← hy] at HCC HNX
                    clear hy
                    go_wp2_with fail
                    refine HCC.out.mono ?_
                    rintro e w4 ⟨rfl, hb4⟩
                    have HI4 : Hid (SgInv ds w nx (.slice (some ⟨b, 0, none⟩) ds.length capo) w4) := ⟨HI3.out.1.next hb4, HI3.out.2.1, HI3.out.2.2.1, HI3.out.2.2.2.trans (hb4.mono HI3.out.2.2.2.size)⟩
                    clear hb4 c0 c1 c2 c3 o0 r0
                    cases y with
                    | true =>
                      go_wp2_with fail
                      go_roundw
                      case rel => exact ⟨v + 1, nx, c, by omega, by go_num, rfl, HI4.out, HCT3.out, HNX.out (fun _ => by trivial)⟩
                      case measure => simp [intOf]; omega
                    | false =>
                      obtain ⟨b', rb, rc, he, hbz, hrb, o0, hra, hst⟩ := HI4.out.1.at k hkn
                      simp only [Option.some.injEq, Addr.mk.injEq, and_true] at he
                      subst he
                      rw [hrl] at o0
                      have r0 : w4.cell? ⟨rb, v, none⟩ = some (.bool true) := by
                        obtain ⟨h1, -, fr, hrr, hfr⟩ := hra
                        rw [hrr.cell (i := v) (by omega), hfr v hvx, HX.out]
                      have rf : w4.frozen? ⟨rb, v, none⟩ = false := by
                        obtain ⟨h1, -, fr, hrr, hfr⟩ := hra
                        exact hrr.frozen v
                      have HTR : Hid (truesN (dropN nx k v) + 1 = truesN nx) := dropN_trues hkn hvx HX.out.symm
                      have HNE : Hid (truesN (dropN nx k v) < truesN need) := by
                        have h := HTR.out
                        unfold Hid
                        cases c with
                        | true => have := HCT3.out rfl; omega
                        | false => have := congrArg truesN (HCF3.out rfl).1; omega
                      have HI5 : Hid (SgInv ds w (dropN nx k v) (.slice (some ⟨b, 0, none⟩) ds.length capo) (w4.setCell ⟨rb, v, none⟩ (.bool false))) := by
                        refine ⟨?_, dropN_fit HI4.out.2.1, dropN_great HI4.out.2.1 HI4.out.2.2.1 hkn hlt (by rw [← HD.out]; exact HY.out.symm), HI4.out.2.2.2.setCell hrb _⟩
                        unfold dropN
                        rw [List.getElem?_eq_getElem hkn, Option.getD_some]
                        exact hst v false
                      clear hra hst hbz
                      go_wp2_with fail
                      go_roundw
                      case rel => exact ⟨v + 1, _, true, by omega, by go_num, rfl, HI5.out, fun _ => HNE.out, fun h => by cases h⟩
                      case measure => simp [intOf]; omega
                · have hve : v = n := by omega
                  have HNF : Hid (c = false → nx = need ∧ ∀ j (h : j < ds.length) (h' : j < nx.length), j < k + 1 → ∀ (v : Nat) (hv : v < nx[j].length), nx[j][v] = true → needB nx (v : Int) ds[j].2 = true) := by
                    intro hc
                    obtain ⟨h1, h2, h3⟩ := HCF3.out hc
                    refine ⟨h1, fun j h h' hj u hu hru => ?_⟩
                    by_cases e : j = k
                    · subst e
                      have := h3 h' u hu (by omega) hru
                      rw [HD.out] at this
                      exact this
                    · exact h2 j h h' (by omega) u hu hru
                  clear hve c1 c2 c3
                  go_wp2_with fail
                  go_roundw
                  case rel => exact ⟨k + 1, nx, c, by omega, by go_num, rfl, HI3.out, HCT3.out, HNF.out⟩
                  case measure => simp [intOf]; omega
            · have hke : k = ds.length := by omega
              have HM2 := HM.out
              simp only [if_true] at HM2
              go_wp2_with fail
              go_roundg (truesN nd + (if c then 1 else 0))
              case rel => exact ⟨nd, c, rfl, rfl, HI2.out, fun hc => ⟨HI2.out.2.1, fun j h h' v hv hb => (HCF.out hc).2 j h h' (by omega) v hv hb⟩⟩
              case measure =>
                cases c with
                | true => have := HCT.out rfl; simp; omega
                | false => have := (HCF.out rfl).1; rw [this]; simp; omega

set_option maxHeartbeats 400000 in
theorem specStrictArgs_calls (ds : List Df) (p : Value) (w : World) (hp : DIn w ds p) (hz : szL (bodies ds) ≤ 1048576) :
    Calls Try.prog 18 #[p] w (NewN (strictA ds) w) := by
  have HP := mkHid hp
  have HPV := mkHid (specProg_calls ds _ w hp)
  obtain ⟨adp, capp, rfl, -, -, -⟩ := hp
  cases hpr : progB ds with
  | false =>
    rw [hpr] at HPV
    rw [strictA_no hpr]
    clear hpr
    go_enter Try.func18, Try.ntmps18
    go_wp2_with fail
    refine HPV.out.mono ?_
    rintro e w1 ⟨rfl, hb1⟩
    have HB1 := mkHid hb1
    have HNO : Hid (NOwn (w1.alloc (.cells #[] 74)) w.heap.size [] (.slice (some ⟨w1.heap.size, 0, none⟩) 0 0)) := NOwn.nil_of ⟨rfl, Or.inr ⟨_, 0, #[], rfl, hb1.size, Deep.blk_alloc_new _ _, Nat.le_refl _, by unfold maxLen; omega, rfl, rfl⟩⟩
    clear hb1
    go_wp2_with fail
    go_ret
    exact ⟨_, rfl, HNO.out, HB1.out.alloc HB1.out.size _⟩
  | true =>
    rw [hpr] at HPV
    have HPR := mkHid hpr
    have HZ := mkHid hz
    clear hpr hz
    go_enter Try.func18, Try.ntmps18
    go_wp2_with fail
    refine HPV.out.mono ?_
    rintro e w1 ⟨rfl, hb1⟩
    have HB1 := mkHid hb1
    clear hb1
    go_wp2_with fail
    refine (l9Args_calls ds _ w1 (HP.out.next HB1.out) HPR.out HZ.out).mono ?_
    rintro e w2 ⟨v, rfl, hv, hb2⟩
    have HV2 : Hid (NOwn w2 w.heap.size (strictA ds) v) := hv.down HB1.out.size
    have HB2 : Hid (Below w.heap.size w w2) := HB1.out.trans (hb2.mono HB1.out.size)
    clear hv hb2
    go_wp2_with fail
    go_ret
    exact ⟨_, rfl, HV2.out, HB2.out⟩
end Go.Proofs.Ytocnkjicmchbdaa
/-
  THE ANSWERS ARE SMALL: at most six rows, of at most four truth values each.
-/
namespace Go.Proofs.Ytocnkjicmchbdaa
set_option linter.unusedVariables false
set_option linter.unusedSimpArgs false
open Go.RowKit

theorem sum_le4 : ∀ (l : List Nat), (∀ x ∈ l, x ≤ 4) → l.sum ≤ 4 * l.length
  | [], _ => by simp
  | a :: l, h => by
    have h1 := h a (by simp)
    have h2 := sum_le4 l fun x hx => h x (List.mem_cons_of_mem _ hx)
    simp only [List.sum_cons, List.length_cons]
    omega
theorem fit_small {ds : List Df} {g : List (List Bool)} (h : FitN ds g) (h6 : ds.length ≤ 6) (har : ∀ d ∈ ds, 0 ≤ d.1 ∧ d.1 ≤ 4) : g.length ≤ 6 ∧ (g.map (·.length)).sum ≤ 24 := by
  have hl := h.1
  refine ⟨by omega, ?_⟩
  have := sum_le4 (g.map (·.length)) fun x hx => by
    obtain ⟨r, hr, rfl⟩ := List.mem_map.1 hx
    obtain ⟨i, hi, rfl⟩ := List.getElem_of_mem hr
    have hd : i < ds.length := by omega
    have h1 := h.2 i hd hi
    have h2 := har _ (List.getElem_mem hd)
    show g[i].length ≤ 4
    omega
  rw [List.length_map] at this
  omega
theorem strictA_small (ds : List Df) : (strictA ds).length ≤ 6 ∧ ((strictA ds).map (·.length)).sum ≤ 24 := by
  cases hp : progB ds with
  | false => rw [strictA_no hp]; simp
  | true => exact fit_small (strictA_great hp).1.1 (progB_len hp) (progB_ar hp)
end Go.Proofs.Ytocnkjicmchbdaa
/-
  TREES WHOSE BLOCKS ARE ALL DISTINCT: a footprint, the list of the blocks of a tree's rows; what a write into them leaves.
-/
namespace Go.Proofs.Ytocnkjicmchbdaa
set_option linter.unusedVariables false
set_option linter.unusedSimpArgs false
open Go.RowKit

mutual
/-- the three cells of a tree, its rows in the blocks fp -/
def TrFp (w : World) (T : TypeId) : Tr → List Nat → Value → Value → Value → Prop
  | .node op n ks, fp, a, b, c => a = .int .i64 op ∧ b = .int .i64 n ∧ I64 op ∧ I64 n ∧
      ∃ ad cap, c = .slice ad ks.length cap ∧ ks.length ≤ cap ∧ cap ≤ maxLen ∧
        ((ks = [] ∧ fp = []) ∨ ∃ bl off C fps, ad = some ⟨bl, off, none⟩ ∧ w.heap[bl]? = some (.cells C T) ∧ fp = bl :: fps.flatten ∧ RowFp w T bl off ks fps)
/-- the trees of a row, each with its own blocks -/
def RowFp (w : World) (T : TypeId) (bl off : Nat) : List Tr → List (List Nat) → Prop
  | [], fps => fps = []
  | t :: ts, fps => ∃ f fs, fps = f :: fs ∧ (∃ a b c, w.cell? ⟨bl, off, none⟩ = some a ∧ w.cell? ⟨bl, off + 1, none⟩ = some b ∧ w.cell? ⟨bl, off + 2, none⟩ = some c ∧ TrFp w T t f a b c) ∧ RowFp w T bl (off + 3) ts fs
end

/-- a slice value that holds these trees, in the blocks fp -/
def KidsFp (w : World) (T : TypeId) (ks : List Tr) (fp : List Nat) (c : Value) : Prop :=
  ∃ ad cap, c = .slice ad ks.length cap ∧ ks.length ≤ cap ∧ cap ≤ maxLen ∧
    ((ks = [] ∧ fp = []) ∨ ∃ bl off C fps, ad = some ⟨bl, off, none⟩ ∧ w.heap[bl]? = some (.cells C T) ∧ fp = bl :: fps.flatten ∧ RowFp w T bl off ks fps)

theorem trFp_iff {w : World} {T : TypeId} {t : Tr} {fp : List Nat} {a b c : Value} : TrFp w T t fp a b c ↔ a = .int .i64 t.op ∧ b = .int .i64 t.num ∧ I64 t.op ∧ I64 t.num ∧ KidsFp w T t.kids fp c := by
  cases t; simp [TrFp, KidsFp]

mutual
theorem TrFp.keep {w w' : World} {T : TypeId} : ∀ (t : Tr) (fp : List Nat) (a b c : Value), (∀ k ∈ fp, w'.heap[k]? = w.heap[k]?) → TrFp w T t fp a b c → TrFp w' T t fp a b c
  | .node op n ks, fp, a, b, c, hw, h => by
    simp only [TrFp] at h ⊢
    obtain ⟨h1, h2, h3, h4, ad, cap, e, l1, l2, h5⟩ := h
    refine ⟨h1, h2, h3, h4, ad, cap, e, l1, l2, ?_⟩
    rcases h5 with h5 | ⟨bl, off, C, fps, e, hb, rfl, r⟩
    · exact Or.inl h5
    · exact Or.inr ⟨bl, off, C, fps, e, (hw bl (by simp)).trans hb, rfl, RowFp.keep bl off ks fps (hw bl (by simp)) (fun f hf k hk => hw k (by simp only [List.mem_cons, List.mem_flatten]; exact Or.inr ⟨f, hf, hk⟩)) r⟩
theorem RowFp.keep {w w' : World} {T : TypeId} (bl off : Nat) : ∀ (ks : List Tr) (fps : List (List Nat)), w'.heap[bl]? = w.heap[bl]? → (∀ f ∈ fps, ∀ k ∈ f, w'.heap[k]? = w.heap[k]?) → RowFp w T bl off ks fps → RowFp w' T bl off ks fps
  | [], fps, _, _, h => by simpa [RowFp] using h
  | t :: ts, fps, hb, hw, h => by
    simp only [RowFp] at h ⊢
    obtain ⟨f, fs, rfl, ⟨a, b, c, ha, hbb, hc, ht⟩, hr⟩ := h
    refine ⟨f, fs, rfl, ⟨a, b, c, ?_, ?_, ?_, TrFp.keep t f a b c (hw f (by simp)) ht⟩, RowFp.keep bl (off + 3) ts fs hb (fun g hg => hw g (by simp [hg])) hr⟩
    · rw [World.cell?_of_block (w := w) hb]; exact ha
    · rw [World.cell?_of_block (w := w) hb]; exact hbb
    · rw [World.cell?_of_block (w := w) hb]; exact hc
end
theorem KidsFp.keep {w w' : World} {T : TypeId} {ks : List Tr} {fp : List Nat} {c : Value} (h : KidsFp w T ks fp c) (hw : ∀ k ∈ fp, w'.heap[k]? = w.heap[k]?) : KidsFp w' T ks fp c := by
  obtain ⟨ad, cap, e, l1, l2, h5⟩ := h
  refine ⟨ad, cap, e, l1, l2, ?_⟩
  rcases h5 with h5 | ⟨bl, off, C, fps, e, hb, rfl, r⟩
  · exact Or.inl h5
  · exact Or.inr ⟨bl, off, C, fps, e, (hw bl (by simp)).trans hb, rfl, RowFp.keep bl off ks fps (hw bl (by simp)) (fun f hf k hk => hw k (by simp only [List.mem_cons, List.mem_flatten]; exact Or.inr ⟨f, hf, hk⟩)) r⟩

/-- the blocks lie in the heap -/
theorem cellsOf_lt {w : World} {b : Nat} {o : Obj} (h : w.heap[b]? = some o) : b < w.heap.size := (Array.getElem?_eq_some_iff.1 h).1
mutual
theorem TrFp.on {w : World} {T : TypeId} {S : Nat → Prop} : ∀ (t : Tr) (fp : List Nat) (a b c : Value), (∀ k ∈ fp, S k) → TrFp w T t fp a b c → TrOn w S t a b c
  | .node op n ks, fp, a, b, c, hS, h => by
    simp only [TrFp] at h
    simp only [TrOn]
    obtain ⟨h1, h2, h3, h4, ad, cap, e, l1, l2, h5⟩ := h
    refine ⟨h1, h2, h3, h4, ad, cap, e, l1, l2, ?_⟩
    rcases h5 with ⟨h5, _⟩ | ⟨bl, off, C, fps, e, hb, rfl, r⟩
    · exact Or.inl h5
    · exact Or.inr ⟨bl, off, e, hS bl (by simp), RowFp.on bl off ks fps (fun f hf k hk => hS k (by simp only [List.mem_cons, List.mem_flatten]; exact Or.inr ⟨f, hf, hk⟩)) r⟩
theorem RowFp.on {w : World} {T : TypeId} {S : Nat → Prop} (bl off : Nat) : ∀ (ks : List Tr) (fps : List (List Nat)), (∀ f ∈ fps, ∀ k ∈ f, S k) → RowFp w T bl off ks fps → RowOn w S bl off ks
  | [], fps, _, h => by simp [RowOn]
  | t :: ts, fps, hS, h => by
    simp only [RowFp] at h
    simp only [RowOn]
    obtain ⟨f, fs, rfl, ⟨a, b, c, ha, hbb, hc, ht⟩, hr⟩ := h
    exact ⟨⟨a, b, c, ha, hbb, hc, TrFp.on t f a b c (hS f (by simp)) ht⟩, RowFp.on bl (off + 3) ts fs (fun g hg => hS g (by simp [hg])) hr⟩
end
theorem KidsFp.on {w : World} {T : TypeId} {S : Nat → Prop} {ks : List Tr} {fp : List Nat} {c : Value} (h : KidsFp w T ks fp c) (hS : ∀ k ∈ fp, S k) : KidsOn w S ks c := by
  obtain ⟨ad, cap, e, l1, l2, h5⟩ := h
  refine ⟨ad, cap, e, l1, l2, ?_⟩
  rcases h5 with ⟨h5, _⟩ | ⟨bl, off, C, fps, e, hb, rfl, r⟩
  · exact Or.inl h5
  · exact Or.inr ⟨bl, off, e, hS bl (by simp), RowFp.on bl off ks fps (fun f hf k hk => hS k (by simp only [List.mem_cons, List.mem_flatten]; exact Or.inr ⟨f, hf, hk⟩)) r⟩

/-- element i of a row -/
theorem RowFp.at {w : World} {T : TypeId} {bl : Nat} : ∀ (ks : List Tr) (fps : List (List Nat)) (off i : Nat) (hi : i < ks.length), RowFp w T bl off ks fps →
    fps.length = ks.length ∧ ∃ f, fps[i]? = some f ∧ ∃ a b c, w.cell? ⟨bl, off + i * 3, none⟩ = some a ∧ w.cell? ⟨bl, off + i * 3 + 1, none⟩ = some b ∧ w.cell? ⟨bl, off + i * 3 + 2, none⟩ = some c ∧ TrFp w T ks[i] f a b c
  | [], _, _, _, hi, _ => by simp at hi
  | t :: ts, fps, off, 0, _, h => by
    simp only [RowFp] at h
    obtain ⟨f, fs, rfl, h1, h2⟩ := h
    refine ⟨?_, f, rfl, by simpa using h1⟩
    cases ts with
    | nil => simp only [RowFp] at h2; simp [h2]
    | cons u us => simp [(RowFp.at (u :: us) fs (off + 3) 0 (by simp) h2).1]
  | t :: ts, fps, off, i + 1, hi, h => by
    simp only [RowFp] at h
    obtain ⟨f, fs, rfl, h1, h2⟩ := h
    have := RowFp.at ts fs (off + 3) i (by simpa using hi) h2
    have e : off + 3 + i * 3 = off + (i + 1) * 3 := by omega
    rw [e] at this
    exact ⟨by simp [this.1], by simpa using this.2⟩

/-- a row from its elements -/
theorem RowFp.of {w : World} {T : TypeId} {bl : Nat} : ∀ (ks : List Tr) (fps : List (List Nat)) (off : Nat), fps.length = ks.length →
    (∀ i (hi : i < ks.length), ∃ f, fps[i]? = some f ∧ ∃ a b c, w.cell? ⟨bl, off + i * 3, none⟩ = some a ∧ w.cell? ⟨bl, off + i * 3 + 1, none⟩ = some b ∧ w.cell? ⟨bl, off + i * 3 + 2, none⟩ = some c ∧ TrFp w T ks[i] f a b c) → RowFp w T bl off ks fps
  | [], fps, _, hl, _ => by simpa [RowFp] using hl
  | t :: ts, [], _, hl, _ => by simp at hl
  | t :: ts, f :: fs, off, hl, h => by
    simp only [RowFp]
    refine ⟨f, fs, rfl, ?_, RowFp.of ts fs (off + 3) (by simpa using hl) fun i hi => ?_⟩
    · obtain ⟨f', hf, a, b, c, h1⟩ := h 0 (by simp)
      simp only [List.getElem?_cons_zero, Option.some.injEq] at hf
      subst hf
      simp only [Nat.zero_mul, Nat.add_zero, List.getElem_cons_zero] at h1
      exact ⟨a, b, c, h1⟩
    · have := h (i + 1) (by simpa using hi)
      have e : off + (i + 1) * 3 = off + 3 + i * 3 := by omega
      rw [e] at this
      simpa using this

/-! ### Numbered trees -/
/-- the trees of a list with their numbers replaced, in order, from k on -/
def labL : List Tr → Int → List Tr
  | [], _ => []
  | .node _ _ ks :: ts, k => .node k (k + 1) (labL ks (k + 2)) :: labL ts (k + 2 + 2 * (szL ks : Int))
theorem labL_length : ∀ (ts : List Tr) (k : Int), (labL ts k).length = ts.length
  | [], _ => by simp [labL]
  | .node _ _ ks :: ts, k => by simp [labL, labL_length ts]
theorem labL_cons (t : Tr) (ts : List Tr) (k : Int) : labL (t :: ts) k = .node k (k + 1) (labL t.kids (k + 2)) :: labL ts (k + 2 + 2 * (szT t : Int)) := by
  cases t; simp [labL, szT]
theorem labL_append : ∀ (a b : List Tr) (k : Int), labL (a ++ b) k = labL a k ++ labL b (k + 2 * (szL a : Int))
  | [], b, k => by simp [labL, szL]
  | t :: a, b, k => by
    rw [List.cons_append, labL_cons, labL_cons, labL_append a b]
    simp only [List.cons_append, szL]
    congr 3
    push_cast
    omega
end Go.Proofs.Ytocnkjicmchbdaa
/-
  THE NUMBERS THAT MARKED TREES BEAR, element by element.
-/
namespace Go.Proofs.Ytocnkjicmchbdaa
set_option linter.unusedVariables false
set_option linter.unusedSimpArgs false
open Go.RowKit

/-- the number that stands at element i -/
def labAt (ks : List Tr) (k : Int) (i : Nat) : Int := k + 2 * (szL (ks.take i) : Int)
theorem labAt_zero (ks : List Tr) (k : Int) : labAt ks k 0 = k := by simp [labAt, szL]
theorem labAt_end (ks : List Tr) (k : Int) : labAt ks k ks.length = k + 2 * (szL ks : Int) := by simp [labAt]
theorem labAt_succ (ks : List Tr) (k : Int) (i : Nat) (hi : i < ks.length) : labAt ks k (i + 1) = labAt ks k i + 2 + 2 * (szL ks[i].kids : Int) := by
  unfold labAt
  rw [szL_take_succ ks i hi, szT_eq]
  push_cast
  omega
theorem labAt_le (ks : List Tr) (k : Int) (i : Nat) : k ≤ labAt ks k i ∧ labAt ks k i ≤ k + 2 * (szL ks : Int) := by
  have := szL_take_le ks i
  unfold labAt
  omega
theorem labL_get : ∀ (ks : List Tr) (k : Int) (i : Nat) (hi : i < ks.length) (hj : i < (labL ks k).length), (labL ks k)[i] = .node (labAt ks k i) (labAt ks k i + 1) (labL ks[i].kids (labAt ks k i + 2))
  | [], _, _, hi, _ => by simp at hi
  | t :: ts, k, 0, _, _ => by simp [labL_cons, labAt_zero]
  | t :: ts, k, i + 1, hi, hj => by
    have := labL_get ts (k + 2 + 2 * (szT t : Int)) i (by simpa using hi) (by rw [labL_length]; simpa using hi)
    simp only [labL_cons, List.getElem_cons_succ, this]
    have e : labAt ts (k + 2 + 2 * (szT t : Int)) i = labAt (t :: ts) k (i + 1) := by
      unfold labAt
      simp only [List.take_succ_cons, szL]
      push_cast
      omega
    rw [e]

end Go.Proofs.Ytocnkjicmchbdaa
/-
  A WORLD IN WHICH NOTHING BUT SOME BLOCKS HAS BEEN WRITTEN.
-/
namespace Go.Proofs.Ytocnkjicmchbdaa
set_option linter.unusedVariables false
set_option linter.unusedSimpArgs false
open Go.RowKit

/-- all blocks but those of a list are as they were -/
structure ButL (fp : List Nat) (w w' : World) : Prop where
  os : w'.os = w.os
  tape : w'.tape = w.tape
  output : w'.output = w.output
  size : w.heap.size ≤ w'.heap.size
  block : ∀ k, k < w.heap.size → k ∉ fp → w'.heap[k]? = w.heap[k]?
theorem ButL.refl (fp : List Nat) (w : World) : ButL fp w w := ⟨rfl, rfl, rfl, Nat.le_refl _, fun _ _ _ => rfl⟩
theorem ButL.trans {fp : List Nat} {a c d : World} (h : ButL fp a c) (k : ButL fp c d) : ButL fp a d :=
  ⟨k.os.trans h.os, k.tape.trans h.tape, k.output.trans h.output, Nat.le_trans h.size k.size, fun i hi hb => (k.block i (Nat.lt_of_lt_of_le hi h.size) hb).trans (h.block i hi hb)⟩
theorem ButL.mono {fp fq : List Nat} {w w' : World} (h : ButL fp w w') (hs : ∀ k ∈ fp, k ∈ fq) : ButL fq w w' := ⟨h.os, h.tape, h.output, h.size, fun k hk hb => h.block k hk fun hm => hb (hs k hm)⟩
theorem ButL.of_below {fp : List Nat} {w w' : World} (h : Below w.heap.size w w') : ButL fp w w' := ⟨h.os, h.tape, h.output, h.size, fun k hk _ => h.block k hk⟩
theorem ButL.below {fp : List Nat} {B : Nat} {w w' : World} (h : ButL fp w w') (hf : ∀ k ∈ fp, B ≤ k) (hB : B ≤ w.heap.size) : Below B w w' :=
  ⟨h.os, h.tape, h.output, h.size, fun k hk => h.block k (by omega) (fun hm => by have := hf k hm; omega)⟩
theorem ButL.setCell {fp : List Nat} (w : World) (b o : Nat) (hb : b ∈ fp) (u : Value) : ButL fp w (w.setCell ⟨b, o, none⟩ u) :=
  ⟨rfl, rfl, rfl, by simp [World.setCell], fun k hk hn => Below.heap_setCell _ _ _ _ (fun e => hn (e ▸ hb))⟩
end Go.Proofs.Ytocnkjicmchbdaa
/-
  THE LAWS' OWN MARKING OF TREES (markExprS, markExpr): a list of trees whose blocks are all distinct bears its numbers in order afterwards; no other block is changed.
-/
namespace Go.Proofs.Ytocnkjicmchbdaa
set_option linter.unusedVariables false
set_option linter.unusedSimpArgs false
open Go.RowKit


mutual
theorem TrFp.lt {w : World} {T : TypeId} : ∀ (t : Tr) (fp : List Nat) (a b c : Value), TrFp w T t fp a b c → ∀ k ∈ fp, k < w.heap.size
  | .node op n ks, fp, a, b, c, h, k, hk => by
    simp only [TrFp] at h
    obtain ⟨-, -, -, -, ad, cap, e, l1, l2, h5⟩ := h
    rcases h5 with ⟨-, rfl⟩ | ⟨bl, off, C, fps, e, hb, rfl, r⟩
    · simp at hk
    · simp only [List.mem_cons, List.mem_flatten] at hk
      rcases hk with rfl | ⟨f, hf, hk⟩
      · exact cellsOf_lt hb
      · exact RowFp.lt bl off ks fps r f hf k hk
theorem RowFp.lt {w : World} {T : TypeId} (bl off : Nat) : ∀ (ks : List Tr) (fps : List (List Nat)), RowFp w T bl off ks fps → ∀ f ∈ fps, ∀ k ∈ f, k < w.heap.size
  | [], fps, h, f, hf, k, hk => by simp only [RowFp] at h; subst h; simp at hf
  | t :: ts, fps, h, f, hf, k, hk => by
    simp only [RowFp] at h
    obtain ⟨g, gs, rfl, ⟨a, b, c, -, -, -, ht⟩, hr⟩ := h
    simp only [List.mem_cons] at hf
    rcases hf with rfl | hf
    · exact TrFp.lt t f a b c ht k hk
    · exact RowFp.lt bl (off + 3) ts gs hr f hf k hk
end
theorem KidsFp.lt {w : World} {T : TypeId} {ks : List Tr} {fp : List Nat} {c : Value} (h : KidsFp w T ks fp c) : ∀ k ∈ fp, k < w.heap.size := by
  obtain ⟨ad, cap, e, l1, l2, h5⟩ := h
  intro k hk
  rcases h5 with ⟨-, rfl⟩ | ⟨bl, off, C, fps, e, hb, rfl, r⟩
  · simp at hk
  · simp only [List.mem_cons, List.mem_flatten] at hk
    rcases hk with rfl | ⟨f, hf, hk⟩
    · exact cellsOf_lt hb
    · exact RowFp.lt bl off ks fps r f hf k hk

/-- two lists out of a list of lists have no block in common -/
theorem flatten_disj : ∀ {fps : List (List Nat)} (h : fps.flatten.Nodup) {i j : Nat} {f g : List Nat}, fps[i]? = some f → fps[j]? = some g → i ≠ j → ∀ k ∈ f, k ∉ g
  | [], _, _, _, _, _, hi, _, _, _, _ => by simp at hi
  | x :: xs, h, 0, 0, _, _, _, _, hne, _, _ => absurd rfl hne
  | x :: xs, h, 0, j + 1, f, g, hi, hj, _, k, hk => by
    simp only [List.flatten_cons, List.nodup_append] at h
    simp only [List.getElem?_cons_zero, Option.some.injEq] at hi
    simp only [List.getElem?_cons_succ] at hj
    subst hi
    exact fun hg => h.2.2 k hk k (List.mem_flatten.2 ⟨g, List.mem_of_getElem? hj, hg⟩) rfl
  | x :: xs, h, i + 1, 0, f, g, hi, hj, _, k, hk => by
    simp only [List.flatten_cons, List.nodup_append] at h
    simp only [List.getElem?_cons_zero, Option.some.injEq] at hj
    simp only [List.getElem?_cons_succ] at hi
    subst hj
    exact fun hg => h.2.2 k hg k (List.mem_flatten.2 ⟨f, List.mem_of_getElem? hi, hk⟩) rfl
  | x :: xs, h, i + 1, j + 1, f, g, hi, hj, hne, k, hk => by
    simp only [List.flatten_cons, List.nodup_append] at h
    exact flatten_disj h.2.1 (by simpa using hi) (by simpa using hj) (by omega) k hk
theorem flatten_one : ∀ {fps : List (List Nat)} (h : fps.flatten.Nodup) {i : Nat} {f : List Nat}, fps[i]? = some f → f.Nodup
  | [], _, _, _, hi => by simp at hi
  | x :: xs, h, 0, f, hi => by
    simp only [List.flatten_cons, List.nodup_append] at h
    simp only [List.getElem?_cons_zero, Option.some.injEq] at hi
    subst hi
    exact h.1
  | x :: xs, h, i + 1, f, hi => by
    simp only [List.flatten_cons, List.nodup_append] at h
    exact flatten_one h.2.1 (by simpa using hi)

/-- a store into a block: the block, the cell, the other cells -/
theorem set_block {w : World} {b : Nat} {C : Array Value} {T : TypeId} (h : w.heap[b]? = some (.cells C T)) (o : Nat) (u : Value) : ∃ C', (w.setCell ⟨b, o, none⟩ u).heap[b]? = some (.cells C' T) := by
  simp [World.setCell, Array.getElem?_modify, h]
theorem set_at {w : World} {b o : Nat} {C : Array Value} {T : TypeId} (h : w.heap[b]? = some (.cells C T)) {v : Value} (hv : w.cell? ⟨b, o, none⟩ = some v) (u : Value) : (w.setCell ⟨b, o, none⟩ u).cell? ⟨b, o, none⟩ = some u := by
  simp only [World.cell?, h] at hv
  have hlt := (Array.getElem?_eq_some_iff.1 (by simpa using hv)).1
  simp [World.cell?, World.setCell, Array.getElem?_modify, h, Array.getElem?_setIfInBounds, hlt]
theorem set_off {w : World} {b o i : Nat} {C : Array Value} {T : TypeId} (h : w.heap[b]? = some (.cells C T)) (hi : i ≠ o) (u : Value) : (w.setCell ⟨b, o, none⟩ u).cell? ⟨b, i, none⟩ = w.cell? ⟨b, i, none⟩ := by
  simp [World.cell?, World.setCell, Array.getElem?_modify, h, Array.getElem?_setIfInBounds, Ne.symm hi]
theorem cells_thawed {w : World} {b : Nat} {C : Array Value} {T : TypeId} (h : w.heap[b]? = some (.cells C T)) (o : Nat) : w.frozen? ⟨b, o, none⟩ = false := by simp [World.frozen?, h]

/-- element j of a row was marked: its two numbers, then the trees below it -/
theorem RowFp.mark {w w1 : World} {T : TypeId} {bl off : Nat} {ks : List Tr} {fps : List (List Nat)} {C : Array Value} (hb : w.heap[bl]? = some (.cells C T)) (hr : RowFp w T bl off ks fps) (hn : (bl :: fps.flatten).Nodup)
    (j : Nat) (hj : j < ks.length) (x y : Int) (hx : I64 x) (hy : I64 y) (f : List Nat) (hf : fps[j]? = some f) (r : Value) (hc : w.cell? ⟨bl, off + j * 3 + 2, none⟩ = some r) (ks' : List Tr) (h1 : KidsFp w1 T ks' f r)
    (hbut : ButL f ((w.setCell ⟨bl, off + j * 3, none⟩ (.int .i64 x)).setCell ⟨bl, off + j * 3 + 1, none⟩ (.int .i64 y)) w1) :
    RowFp w1 T bl off (ks.set j (.node x y ks')) fps ∧ ∃ C', w1.heap[bl]? = some (.cells C' T) := by
  have hbl : bl < w.heap.size := cellsOf_lt hb
  simp only [List.nodup_cons] at hn
  obtain ⟨hn1, hn2⟩ := hn
  have hblf : bl ∉ f := fun hm => hn1 (List.mem_flatten.2 ⟨f, List.mem_of_getElem? hf, hm⟩)
  obtain ⟨C1, hC1⟩ := set_block hb (off + j * 3) (.int .i64 x)
  obtain ⟨C2, hC2⟩ := set_block hC1 (off + j * 3 + 1) (.int .i64 y)
  have hsz : ((w.setCell ⟨bl, off + j * 3, none⟩ (.int .i64 x)).setCell ⟨bl, off + j * 3 + 1, none⟩ (.int .i64 y)).heap.size = w.heap.size := by rw [size_setCell, size_setCell]
  have hblk : w1.heap[bl]? = ((w.setCell ⟨bl, off + j * 3, none⟩ (.int .i64 x)).setCell ⟨bl, off + j * 3 + 1, none⟩ (.int .i64 y)).heap[bl]? := hbut.block bl (by rw [hsz]; exact hbl) hblf
  have hcell : ∀ i, w1.cell? ⟨bl, i, none⟩ = ((w.setCell ⟨bl, off + j * 3, none⟩ (.int .i64 x)).setCell ⟨bl, off + j * 3 + 1, none⟩ (.int .i64 y)).cell? ⟨bl, i, none⟩ := fun i => World.cell?_of_block hblk
  have hsame : ∀ i, i ≠ off + j * 3 → i ≠ off + j * 3 + 1 → w1.cell? ⟨bl, i, none⟩ = w.cell? ⟨bl, i, none⟩ := fun i h1 h2 => by rw [hcell, set_off hC1 h2, set_off hb h1]
  refine ⟨RowFp.of _ _ _ ?_ ?_, C2, hblk.trans hC2⟩
  · rw [List.length_set]; exact (RowFp.at ks fps off j hj hr).1
  intro i hi
  rw [List.length_set] at hi
  obtain ⟨-, g, hg, a, b, c, ha, hbb, hcc, ht⟩ := RowFp.at ks fps off i hi hr
  refine ⟨g, hg, ?_⟩
  by_cases hij : i = j
  · subst hij
    rw [hf] at hg
    cases hg
    rw [hc] at hcc
    cases hcc
    refine ⟨.int .i64 x, .int .i64 y, r, ?_, ?_, ?_, ?_⟩
    · rw [hcell, set_off hC1 (by omega), set_at hb ha]
    · rw [hcell]
      exact set_at hC1 (v := b) (by rw [set_off hb (by omega)]; exact hbb) _
    · rw [hsame _ (by omega) (by omega)]; exact hc
    · simp only [List.getElem_set_self]
      exact trFp_iff.2 ⟨rfl, rfl, hx, hy, h1⟩
  · refine ⟨a, b, c, ?_, ?_, ?_, ?_⟩
    · rw [hsame _ (by omega) (by omega)]; exact ha
    · rw [hsame _ (by omega) (by omega)]; exact hbb
    · rw [hsame _ (by omega) (by omega)]; exact hcc
    · rw [List.getElem_set_ne (by omega)]
      refine TrFp.keep _ g a b c (fun k hk => ?_) ht
      have hkl := TrFp.lt _ g a b c ht k hk
      have hkb : k ≠ bl := fun e => hn1 (List.mem_flatten.2 ⟨g, List.mem_of_getElem? hg, e ▸ hk⟩)
      rw [hbut.block k (by rw [hsz]; exact hkl) (flatten_disj hn2 hg hf hij k hk)]
      exact (Below.heap_setCell _ _ _ _ hkb).trans (Below.heap_setCell _ _ _ _ hkb)
end Go.Proofs.Ytocnkjicmchbdaa
/-
  PAIRS OF PLACES: what a list of pairs still to be compared, and the pairs seen, say of two trees. No program is named here.
-/
namespace Go.Proofs.Ytocnkjicmchbdaa
set_option linter.unusedVariables false
set_option linter.unusedSimpArgs false
open Go.RowKit

/-- the place of operand i of the tree at a place -/
def KidAt (w : World) (x : Addr) (i : Nat) (z : Addr) : Prop :=
  ∃ bl off kb ko n cap, x = ⟨bl, off, none⟩ ∧ w.cell? ⟨bl, off + 2, none⟩ = some (.slice (some ⟨kb, ko, none⟩) n cap) ∧ z = ⟨kb, ko + i * 3, none⟩
theorem KidAt.uniq {w : World} {x z z' : Addr} {i : Nat} (h : KidAt w x i z) (h' : KidAt w x i z') : z = z' := by
  obtain ⟨bl, off, kb, ko, n, cap, rfl, hc, rfl⟩ := h
  obtain ⟨bl', off', kb', ko', n', cap', e, hc', rfl⟩ := h'
  simp only [Addr.mk.injEq] at e
  obtain ⟨rfl, rfl, -⟩ := e
  rw [hc] at hc'
  simp only [Option.some.injEq, Value.slice.injEq, Addr.mk.injEq] at hc'
  obtain ⟨⟨rfl, rfl, -⟩, -⟩ := hc'
  rfl
theorem LiesAt.kid {w : World} {S : Nat → Prop} {x : Addr} {s : Tr} (h : LiesAt w S x s) (i : Nat) (hi : i < s.kids.length) : ∃ z, KidAt w x i z ∧ LiesAt w S z s.kids[i] := by
  obtain ⟨bl, off, a, b, c, rfl, hs, h0, h1, h2, ht⟩ := h
  obtain ⟨-, -, -, -, ad, cap, rfl, -, -, hr⟩ := trOn_iff.1 ht
  rcases hr with hr | ⟨kb, ko, rfl, hk, hr⟩
  · rw [hr] at hi; simp at hi
  · exact ⟨_, ⟨bl, off, kb, ko, _, _, rfl, h2, rfl⟩, RowOn.liesAt hi hk hr⟩
theorem KidAt.lies {w : World} {S : Nat → Prop} {x z : Addr} {s : Tr} {i : Nat} (h : KidAt w x i z) (hx : LiesAt w S x s) (hi : i < s.kids.length) : LiesAt w S z s.kids[i] := by
  obtain ⟨z', hz, hl⟩ := hx.kid i hi
  rw [h.uniq hz]
  exact hl

/-- two places and their trees -/
structure Wk where
  x : Addr
  y : Addr
  s : Tr
  t : Tr
def Wk.key (e : Wk) : Addr × Addr := (e.x, e.y)
def WkOk (w : World) (S : Nat → Prop) (Q : Prop) (e : Wk) : Prop := LiesAt w S e.x e.s ∧ LiesAt w S e.y e.t ∧ (Q → e.s = e.t)
/-- trees lie at both places -/
def Pair2 (w : World) (S : Nat → Prop) (k : Addr × Addr) : Prop := ∃ s t, LiesAt w S k.1 s ∧ LiesAt w S k.2 t
abbrev Mp := Addr × Addr → Option Value
/-- the first operands of both are at one place, or have been seen -/
def KidsSeen (w : World) (M : Mp) (k : Addr × Addr) (m : Nat) : Prop := ∀ i, i < m → ∀ z z', KidAt w k.1 i z → KidAt w k.2 i z' → z = z' ∨ (M (z, z')).isSome = true
def Done (w : World) (S : Nat → Prop) (M : Mp) (k : Addr × Addr) : Prop := ∀ s t, LiesAt w S k.1 s → LiesAt w S k.2 t → s.op = t.op ∧ s.num = t.num ∧ s.kids.length = t.kids.length ∧ KidsSeen w M k s.kids.length
def Seen (root : Addr × Addr) (M : Mp) (k : Addr × Addr) : Prop := k = root ∨ (M k).isSome = true
def Inv (w : World) (S : Nat → Prop) (root : Addr × Addr) (M : Mp) (l : List Wk) (cur : Option (Addr × Addr)) : Prop :=
  ∀ k, Seen root M k → cur = some k ∨ (∃ e ∈ l, e.key = k) ∨ Done w S M k

theorem pput_some {κ : Type} [DecidableEq κ] {M : κ → Option Value} {a : κ} {v : Value} {k : κ} (h : (M k).isSome = true) : (pput M a v k).isSome = true := by
  unfold pput; split <;> simp_all
theorem KidsSeen.put {w : World} {M : Mp} {k a : Addr × Addr} {m : Nat} {v : Value} (h : KidsSeen w M k m) : KidsSeen w (pput M a v) k m :=
  fun i hi z z' hz hz' => (h i hi z z' hz hz').imp id pput_some
theorem Done.put {w : World} {S : Nat → Prop} {M : Mp} {k a : Addr × Addr} {v : Value} (h : Done w S M k) : Done w S (pput M a v) k :=
  fun s t hs ht => by
    obtain ⟨h1, h2, h3, h4⟩ := h s t hs ht
    exact ⟨h1, h2, h3, h4.put⟩

theorem Inv.start (w : World) (S : Nat → Prop) (e : Wk) : Inv w S e.key (fun _ => none) [e] none := by
  intro k hk
  rcases hk with rfl | hk
  · exact Or.inr (Or.inl ⟨e, by simp, rfl⟩)
  · simp at hk
theorem Inv.pop {w : World} {S : Nat → Prop} {root : Addr × Addr} {M : Mp} {l : List Wk} {e : Wk} (h : Inv w S root M (l ++ [e]) none) : Inv w S root M l (some e.key) := by
  intro k hk
  rcases h k hk with h | ⟨d, hd, hdk⟩ | h
  · cases h
  · rw [List.mem_append] at hd
    rcases hd with hd | hd
    · exact Or.inr (Or.inl ⟨d, hd, hdk⟩)
    · rw [List.mem_singleton] at hd
      subst hd
      exact Or.inl (by rw [hdk])
  · exact Or.inr (Or.inr h)
theorem Inv.push {w : World} {S : Nat → Prop} {root : Addr × Addr} {M : Mp} {l : List Wk} {cur : Option (Addr × Addr)} (h : Inv w S root M l cur) (e : Wk) (v : Value) : Inv w S root (pput M e.key v) (l ++ [e]) cur := by
  intro k hk
  by_cases hke : k = e.key
  · exact Or.inr (Or.inl ⟨e, by simp, hke.symm⟩)
  · have hk' : Seen root M k := by
      rcases hk with hk | hk
      · exact Or.inl hk
      · rw [pput_other _ _ hke] at hk; exact Or.inr hk
    rcases h k hk' with h | ⟨d, hd, hdk⟩ | h
    · exact Or.inl h
    · exact Or.inr (Or.inl ⟨d, by simp [hd], hdk⟩)
    · exact Or.inr (Or.inr h.put)
theorem Inv.close {w : World} {S : Nat → Prop} {root : Addr × Addr} {M : Mp} {l : List Wk} {k0 : Addr × Addr} (h : Inv w S root M l (some k0)) (hd : Done w S M k0) : Inv w S root M l none := by
  intro k hk
  rcases h k hk with h | h | h
  · cases h; exact Or.inr (Or.inr hd)
  · exact Or.inr (Or.inl h)
  · exact Or.inr (Or.inr h)
theorem KidsSeen.zero (w : World) (M : Mp) (k : Addr × Addr) : KidsSeen w M k 0 := fun i hi => absurd hi (by omega)
theorem KidsSeen.succ {w : World} {M : Mp} {k : Addr × Addr} {m : Nat} {z z' : Addr} (h : KidsSeen w M k m) (hz : KidAt w k.1 m z) (hz' : KidAt w k.2 m z') (hs : z = z' ∨ (M (z, z')).isSome = true) : KidsSeen w M k (m + 1) := by
  intro i hi y y' hy hy'
  by_cases e : i = m
  · subst e
    rw [hy.uniq hz, hy'.uniq hz']
    exact hs
  · exact h i (by omega) y y' hy hy'
theorem Done.of {w : World} {S : Nat → Prop} {M : Mp} {e : Wk} {Q : Prop} (he : WkOk w S Q e) (h1 : e.s.op = e.t.op) (h2 : e.s.num = e.t.num) (h3 : e.s.kids.length = e.t.kids.length) (h4 : KidsSeen w M e.key e.s.kids.length) : Done w S M e.key := by
  intro s t hs ht
  rw [LiesAt.uniq hs he.1, LiesAt.uniq ht he.2.1]
  exact ⟨h1, h2, h3, h4⟩

theorem tr_ext2 {a b : Tr} (h1 : a.op = b.op) (h2 : a.num = b.num) (h3 : a.kids = b.kids) : a = b := by cases a; cases b; simp_all

/-- nothing is left to compare: the trees of every pair seen are equal -/
theorem Inv.done {w : World} {S : Nat → Prop} {root : Addr × Addr} {M : Mp} (h : Inv w S root M [] none) : ∀ (n : Nat) (k : Addr × Addr) (s t : Tr), szT s ≤ n → Seen root M k → LiesAt w S k.1 s → LiesAt w S k.2 t → s = t := by
  intro n
  induction n using Nat.strongRecOn with
  | ind n ih =>
    intro k s t hz hk hs ht
    rcases h k hk with h | ⟨e, he, -⟩ | h
    · cases h
    · simp at he
    · obtain ⟨h1, h2, h3, h4⟩ := h s t hs ht
      refine tr_ext2 h1 h2 (List.ext_getElem h3 fun i hi hi' => ?_)
      obtain ⟨z, hz1, hl⟩ := hs.kid i hi
      obtain ⟨z', hz2, hl'⟩ := ht.kid i hi'
      rcases h4 i hi z z' hz1 hz2 with e | hsn
      · subst e
        exact LiesAt.uniq hl hl'
      · have hlt := szT_lt_szL s.kids i hi
        rw [← szT_eq] at hlt
        exact ih (szT s.kids[i]) (by omega) (z, z') _ _ (Nat.le_refl _) (Or.inr hsn) hl hl'

/-- how much there is to compare -/
def wkSz (l : List Wk) : Nat := (l.map fun e => 1 + szT e.s).sum
theorem wkSz_snoc (l : List Wk) (e : Wk) : wkSz (l ++ [e]) = wkSz l + (1 + szT e.s) := by simp [wkSz]
theorem wkSz_len (l : List Wk) : l.length ≤ wkSz l := by
  induction l with
  | nil => simp [wkSz]
  | cons e l ih => simp only [wkSz, List.map_cons, List.sum_cons, List.length_cons] at ih ⊢; omega

/-- pairs, as cells -/
def wkCells (l : List Wk) : List Value := l.flatMap fun e => [.pointer (some e.x), .pointer (some e.y)]
theorem wkCells_length (l : List Wk) : (wkCells l).length = l.length * 2 := by
  induction l with
  | nil => rfl
  | cons d l ih =>
    show ([_, _] ++ wkCells l).length = _
    rw [List.length_append, ih]
    simp
    omega
theorem wkCells_snoc (l : List Wk) (e : Wk) : wkCells (l ++ [e]) = wkCells l ++ [.pointer (some e.x), .pointer (some e.y)] := by simp [wkCells]
theorem wkCells_one (l : List Wk) : ∀ u ∈ wkCells l, u.oneCell' = true := by
  intro u hu
  simp only [wkCells, List.mem_flatMap] at hu
  obtain ⟨d, -, hu⟩ := hu
  simp only [List.mem_cons, List.not_mem_nil, or_false] at hu
  rcases hu with rfl | rfl <;> rfl

/-- an owned row, cut at its end -/
theorem own_cut {w : World} {base size n m g cap : Nat} {T : TypeId} {xs ys : List Value} (h : w.ownsRow base T size (.slice (some ⟨g, 0, none⟩) n cap) n (xs ++ ys)) (hl : xs.length = m * size) (hm : m ≤ n) : w.ownsRow base T size (.slice (some ⟨g, 0, none⟩) m cap) m xs := by
  obtain ⟨h1, h2⟩ := h
  rcases h2 with ⟨h2, -⟩ | ⟨g', cap', cur, e, hg, hh, hn, hc, hs, htk⟩
  · cases h2
  · cases e
    refine ⟨hl, Or.inr ⟨_, _, cur, rfl, hg, hh, by omega, hc, hs, ?_⟩⟩
    have h3 : m * size ≤ n * size := Nat.mul_le_mul_right _ hm
    have := congrArg (List.take (m * size)) htk
    rw [List.take_take, Nat.min_eq_left h3] at this
    rw [this, ← hl, List.take_left]
theorem own_at {w : World} {base size n g cap : Nat} {T : TypeId} {xs : List Value} (h : w.ownsRow base T size (.slice (some ⟨g, 0, none⟩) n cap) n xs) (j : Nat) (u : Value) (hu : xs[j]? = some u) : w.cell? ⟨g, j, none⟩ = some u := by
  rcases h.2 with ⟨h2, -⟩ | ⟨g', cap', cur, e, hg, hh, hn, hc, hs, htk⟩
  · cases h2
  · cases e
    have hlt : j < n * size := by
      have := (List.getElem?_eq_some_iff.1 hu).1
      rw [h.1] at this
      exact this
    rw [← htk, List.getElem?_take_of_lt hlt, Array.getElem?_toList] at hu
    simp only [World.cell?, hh]
    exact hu
end Go.Proofs.Ytocnkjicmchbdaa
/-
  COUNTING NODES: a path of nodes that are being counted, and the counts that are known; what they say of a tree. No program is named here.
-/
namespace Go.Proofs.Ytocnkjicmchbdaa
set_option linter.unusedVariables false
set_option linter.unusedSimpArgs false
open Go.RowKit

mutual
/-- how many nodes of a tree are wanted -/
def cntT (p : Tr → Bool) : Tr → Nat
  | .node o n ks => (if p (.node o n ks) then 1 else 0) + cntL p ks
/-- .. of a list of trees -/
def cntL (p : Tr → Bool) : List Tr → Nat
  | [] => 0
  | t :: ts => cntT p t + cntL p ts
end
theorem cntT_eq (p : Tr → Bool) (t : Tr) : cntT p t = (if p t then 1 else 0) + cntL p t.kids := by cases t; simp [cntT]
theorem cntL_sum (p : Tr → Bool) : ∀ (l : List Tr), cntL p l = (l.map (cntT p)).sum
  | [] => by simp [cntL]
  | t :: ts => by rw [cntL, cntL_sum p ts]; simp
theorem cntL_take_succ (p : Tr → Bool) (l : List Tr) (i : Nat) (h : i < l.length) : cntL p (l.take (i + 1)) = cntL p (l.take i) + cntT p l[i] := by
  rw [cntL_sum, cntL_sum, List.take_succ_eq_append_getElem h, List.map_append, List.sum_append]; simp
mutual
theorem cntT_le (p : Tr → Bool) : ∀ t : Tr, cntT p t ≤ 1 + szT t
  | .node o n ks => by
    have := cntL_le p ks
    simp only [cntT, szT]
    split <;> omega
theorem cntL_le (p : Tr → Bool) : ∀ l : List Tr, cntL p l ≤ szL l
  | [] => by simp [cntL, szL]
  | t :: ts => by
    have := cntT_le p t
    have := cntL_le p ts
    simp only [cntL, szL]
    omega
end
theorem cntL_take_le (p : Tr → Bool) (l : List Tr) (i : Nat) : cntL p (l.take i) ≤ szL l := Nat.le_trans (cntL_le p _) (szL_take_le l i)
mutual
theorem cntT_all : ∀ t : Tr, cntT (fun _ => true) t = 1 + szT t
  | .node o n ks => by
    have := cntL_all ks
    simp only [cntT, szT]
    simp [this]
theorem cntL_all : ∀ l : List Tr, cntL (fun _ => true) l = szL l
  | [] => by simp [cntL, szL]
  | t :: ts => by
    have := cntT_all t
    have := cntL_all ts
    simp only [cntL, szL]
    omega
end

/-- a node that is being counted: where, its tree, the operands counted, the sum so far -/
structure Fr where
  x : Addr
  t : Tr
  nx : Nat
  sm : Nat
abbrev Mc := Addr → Option Value
/-- the place of operand i, as a function -/
def kidAddr (w : World) (x : Addr) (i : Nat) : Addr :=
  match w.cell? ⟨x.block, x.off + 2, none⟩ with
  | some (.slice (some a) _ _) => ⟨a.block, a.off + i * 3, none⟩
  | _ => x
theorem KidAt.addr {w : World} {x z : Addr} {i : Nat} (h : KidAt w x i z) : kidAddr w x i = z := by
  obtain ⟨bl, off, kb, ko, n, cap, rfl, hc, rfl⟩ := h
  simp [kidAddr, hc]
def FrOk (w : World) (S : Nat → Prop) (p : Tr → Bool) (f : Fr) : Prop :=
  LiesAt w S f.x f.t ∧ f.nx ≤ f.t.kids.length ∧ f.sm = (if p f.t then 1 else 0) + cntL p (f.t.kids.take f.nx)
/-- the nodes lie in one another, the last one innermost -/
def Nest : List Fr → Prop
  | [] => True
  | f :: fs => (∀ g ∈ fs, szT g.t < szT f.t) ∧ Nest fs
theorem Nest.snoc : ∀ {l : List Fr} {f : Fr}, Nest l → (∀ g ∈ l, szT f.t < szT g.t) → Nest (l ++ [f])
  | [], f, _, _ => by simp [Nest]
  | g :: l, f, h, hf => by
    simp only [List.cons_append, Nest] at h ⊢
    refine ⟨fun d hd => ?_, Nest.snoc h.2 fun d hd => hf d (by simp [hd])⟩
    rw [List.mem_append] at hd
    rcases hd with hd | hd
    · exact h.1 d hd
    · rw [List.mem_singleton] at hd; subst hd; exact hf g (by simp)
theorem Nest.init : ∀ {l : List Fr} {f : Fr}, Nest (l ++ [f]) → Nest l ∧ ∀ g ∈ l, szT f.t < szT g.t
  | [], f, _ => by simp [Nest]
  | g :: l, f, h => by
    simp only [List.cons_append, Nest] at h ⊢
    obtain ⟨h1, h2⟩ := Nest.init h.2
    refine ⟨⟨fun d hd => h.1 d (by simp [hd]), h1⟩, fun d hd => ?_⟩
    rw [List.mem_cons] at hd
    rcases hd with rfl | hd
    · exact h.1 f (by simp)
    · exact h2 d hd
/-- what is known: a count, or that the node is on the path -/
def Known (w : World) (S : Nat → Prop) (p : Tr → Bool) (l : List Fr) (k : Addr) (v : Value) : Prop :=
  ∃ t, LiesAt w S k t ∧ (v = .int .i64 (cntT p t) ∨ (v = .int .i64 (-1) ∧ ∃ f ∈ l, f.x = k))
def TInv (w : World) (S : Nat → Prop) (p : Tr → Bool) (M : Mc) (l : List Fr) : Prop :=
  (∀ f ∈ l, FrOk w S p f) ∧ Nest l ∧ ∀ k v, M k = some v → Known w S p l k v

/-- what is still to be done -/
def wtOf (M : Mc) (k : Addr) (t : Tr) : Nat := if (M k).isSome then 1 else 3 * (1 + szT t)
def remL (w : World) (M : Mc) (x : Addr) : Nat → List Tr → Nat
  | _, [] => 0
  | i, k :: ks => wtOf M (kidAddr w x i) k + remL w M x (i + 1) ks
def remF (w : World) (M : Mc) (f : Fr) : Nat := remL w M f.x f.nx (f.t.kids.drop f.nx)
def remP (w : World) (M : Mc) (l : List Fr) : Nat := (l.map (remF w M)).sum + l.length
theorem wtOf_put (M : Mc) (a k : Addr) (v : Value) (t : Tr) : wtOf (pput M a v) k t ≤ wtOf M k t := by
  unfold wtOf
  by_cases h : (M k).isSome = true
  · rw [if_pos h, if_pos (pput_some h)]; exact Nat.le_refl _
  · rw [if_neg h]; split <;> omega
theorem remL_put (w : World) (M : Mc) (a x : Addr) (v : Value) : ∀ (l : List Tr) (i : Nat), remL w (pput M a v) x i l ≤ remL w M x i l
  | [], _ => by simp [remL]
  | k :: ks, i => by
    have := remL_put w M a x v ks (i + 1)
    have := wtOf_put M a (kidAddr w x i) v k
    simp only [remL]
    omega
theorem remP_put (w : World) (M : Mc) (a : Addr) (v : Value) : ∀ (l : List Fr), (l.map (remF w (pput M a v))).sum ≤ (l.map (remF w M)).sum
  | [] => by simp
  | f :: l => by
    have := remP_put w M a v l
    have := remL_put w M a f.x v (f.t.kids.drop f.nx) f.nx
    simp only [List.map_cons, List.sum_cons, remF] at this ⊢
    omega
theorem remL_le (w : World) (M : Mc) (x : Addr) : ∀ (l : List Tr) (i : Nat), remL w M x i l ≤ 3 * szL l
  | [], _ => by simp [remL, szL]
  | k :: ks, i => by
    have := remL_le w M x ks (i + 1)
    have : wtOf M (kidAddr w x i) k ≤ 3 * (1 + szT k) := by unfold wtOf; split <;> omega
    simp only [remL, szL]
    omega
theorem remF_at (w : World) (M : Mc) (f : Fr) (h : f.nx < f.t.kids.length) : remF w M f = wtOf M (kidAddr w f.x f.nx) f.t.kids[f.nx] + remL w M f.x (f.nx + 1) (f.t.kids.drop (f.nx + 1)) := by
  unfold remF
  rw [List.drop_eq_getElem_cons h]
  rfl
theorem remP_snoc (w : World) (M : Mc) (l : List Fr) (f : Fr) : remP w M (l ++ [f]) = (l.map (remF w M)).sum + l.length + (remF w M f + 1) := by
  simp [remP]; omega

/-- a node is counted: it leaves the path -/
theorem TInv.pop {w : World} {S : Nat → Prop} {p : Tr → Bool} {M : Mc} {l : List Fr} {f : Fr} (h : TInv w S p M (l ++ [f])) (hf : f.nx = f.t.kids.length) :
    TInv w S p (pput M f.x (.int .i64 (f.sm : Int))) l ∧ f.sm = cntT p f.t ∧ remP w (pput M f.x (.int .i64 (f.sm : Int))) l < remP w M (l ++ [f]) := by
  obtain ⟨h1, h2, h3⟩ := h
  obtain ⟨f1, -, f3⟩ := h1 f (by simp)
  have hsm : f.sm = cntT p f.t := by rw [f3, cntT_eq, hf, List.take_length]
  refine ⟨⟨fun g hg => h1 g (by simp [hg]), h2.init.1, fun k v hk => ?_⟩, hsm, ?_⟩
  · by_cases e : k = f.x
    · subst e
      rw [pput_same] at hk
      cases hk
      exact ⟨f.t, f1, Or.inl (by rw [hsm])⟩
    · rw [pput_other _ _ e] at hk
      obtain ⟨t, ht, hv⟩ := h3 k v hk
      refine ⟨t, ht, hv.imp id fun ⟨e1, g, hg, hgx⟩ => ⟨e1, g, ?_, hgx⟩⟩
      rw [List.mem_append] at hg
      rcases hg with hg | hg
      · exact hg
      · rw [List.mem_singleton] at hg; subst hg; exact absurd hgx.symm e
  · rw [remP_snoc]
    have := remP_put w M f.x (.int .i64 (f.sm : Int)) l
    unfold remP
    omega
/-- an operand that is counted already -/
theorem TInv.found {w : World} {S : Nat → Prop} {p : Tr → Bool} {M : Mc} {l : List Fr} {f : Fr} (h : TInv w S p M (l ++ [f])) (hf : f.nx < f.t.kids.length) {v : Value} (hv : M (kidAddr w f.x f.nx) = some v) :
    v = .int .i64 (cntT p f.t.kids[f.nx] : Int) ∧ TInv w S p M (l ++ [⟨f.x, f.t, f.nx + 1, f.sm + cntT p f.t.kids[f.nx]⟩]) ∧ remP w M (l ++ [⟨f.x, f.t, f.nx + 1, f.sm + cntT p f.t.kids[f.nx]⟩]) < remP w M (l ++ [f]) := by
  obtain ⟨h1, h2, h3⟩ := h
  obtain ⟨f1, f2, f3⟩ := h1 f (by simp)
  obtain ⟨n1, n2⟩ := h2.init
  obtain ⟨z, hz, hl⟩ := f1.kid f.nx hf
  have hza := hz.addr
  have hlt := szT_lt_szL f.t.kids f.nx hf
  rw [← szT_eq] at hlt
  refine ⟨?_, ⟨fun g hg => ?_, ?_, fun k u hk => ?_⟩, ?_⟩
  · obtain ⟨t, ht, hv'⟩ := h3 _ v hv
    rw [hza] at ht hv'
    have := ht.uniq hl
    subst this
    rcases hv' with hv' | ⟨-, g, hg, hgx⟩
    · exact hv'
    · exfalso
      have hg1 := (h1 g hg).1
      rw [hgx] at hg1
      have he := hg1.uniq hl
      rw [List.mem_append] at hg
      rcases hg with hg | hg
      · have := n2 g hg; rw [he] at this; omega
      · rw [List.mem_singleton] at hg; subst hg; have := congrArg szT he; omega
  · rw [List.mem_append] at hg
    rcases hg with hg | hg
    · exact h1 g (by simp [hg])
    · rw [List.mem_singleton] at hg
      subst hg
      refine ⟨f1, hf, ?_⟩
      show f.sm + _ = _
      rw [f3, cntL_take_succ p _ _ hf, Nat.add_assoc]
  · exact Nest.snoc n1 n2
  · obtain ⟨t, ht, hv'⟩ := h3 k u hk
    refine ⟨t, ht, hv'.imp id fun ⟨e1, g, hg, hgx⟩ => ⟨e1, ?_⟩⟩
    rw [List.mem_append] at hg
    rcases hg with hg | hg
    · exact ⟨g, by simp [hg], hgx⟩
    · rw [List.mem_singleton] at hg; subst hg; exact ⟨_, List.mem_append_right _ (List.mem_singleton.2 rfl), hgx⟩
  · rw [remP_snoc, remP_snoc, remF_at w M f hf]
    have : wtOf M (kidAddr w f.x f.nx) f.t.kids[f.nx] = 1 := by unfold wtOf; rw [hv]; rfl
    rw [this]
    show _ + _ + (remL w M f.x (f.nx + 1) (f.t.kids.drop (f.nx + 1)) + 1) < _
    omega
/-- an operand that is new: it goes onto the path -/
theorem TInv.push {w : World} {S : Nat → Prop} {p : Tr → Bool} {M : Mc} {l : List Fr} {f : Fr} (h : TInv w S p M (l ++ [f])) (hf : f.nx < f.t.kids.length) (hv : M (kidAddr w f.x f.nx) = none) :
    TInv w S p (pput M (kidAddr w f.x f.nx) (.int .i64 (-1))) (l ++ [f] ++ [⟨kidAddr w f.x f.nx, f.t.kids[f.nx], 0, if p f.t.kids[f.nx] then 1 else 0⟩]) ∧
      remP w (pput M (kidAddr w f.x f.nx) (.int .i64 (-1))) (l ++ [f] ++ [⟨kidAddr w f.x f.nx, f.t.kids[f.nx], 0, if p f.t.kids[f.nx] then 1 else 0⟩]) < remP w M (l ++ [f]) := by
  obtain ⟨h1, h2, h3⟩ := h
  obtain ⟨f1, f2, f3⟩ := h1 f (by simp)
  obtain ⟨n1, n2⟩ := h2.init
  obtain ⟨z, hz, hl⟩ := f1.kid f.nx hf
  have hza := hz.addr
  have hlt := szT_lt_szL f.t.kids f.nx hf
  rw [← szT_eq] at hlt
  refine ⟨⟨fun g hg => ?_, ?_, fun k u hk => ?_⟩, ?_⟩
  · rw [List.mem_append] at hg
    rcases hg with hg | hg
    · exact h1 g hg
    · rw [List.mem_singleton] at hg
      subst hg
      exact ⟨by rw [hza]; exact hl, Nat.zero_le _, by simp [cntL]⟩
  · refine Nest.snoc h2 fun g hg => ?_
    rw [List.mem_append] at hg
    rcases hg with hg | hg
    · have := n2 g hg
      show szT f.t.kids[f.nx] < _
      omega
    · rw [List.mem_singleton] at hg; subst hg; exact hlt
  · by_cases e : k = kidAddr w f.x f.nx
    · subst e
      rw [pput_same] at hk
      cases hk
      exact ⟨_, by rw [hza]; exact hl, Or.inr ⟨rfl, _, List.mem_append_right _ (List.mem_singleton.2 rfl), rfl⟩⟩
    · rw [pput_other _ _ e] at hk
      obtain ⟨t, ht, hv'⟩ := h3 k u hk
      exact ⟨t, ht, hv'.imp id fun ⟨e1, g, hg, hgx⟩ => ⟨e1, g, List.mem_append_left _ hg, hgx⟩⟩
  · rw [remP_snoc, remP_snoc, List.map_append, List.sum_append]
    have a1 := remP_put w M (kidAddr w f.x f.nx) (.int .i64 (-1)) l
    have a2 := remF_at w M f hf
    have a3 := remF_at w (pput M (kidAddr w f.x f.nx) (.int .i64 (-1))) f hf
    have a4 := remL_put w M (kidAddr w f.x f.nx) f.x (.int .i64 (-1)) (f.t.kids.drop (f.nx + 1)) (f.nx + 1)
    have b1 : wtOf M (kidAddr w f.x f.nx) f.t.kids[f.nx] = 3 * (1 + szT f.t.kids[f.nx]) := by unfold wtOf; rw [hv]; simp
    have b2 : wtOf (pput M (kidAddr w f.x f.nx) (.int .i64 (-1))) (kidAddr w f.x f.nx) f.t.kids[f.nx] = 1 := by unfold wtOf; rw [pput_same]; rfl
    have a5 : remF w (pput M (kidAddr w f.x f.nx) (.int .i64 (-1))) ⟨kidAddr w f.x f.nx, f.t.kids[f.nx], 0, if p f.t.kids[f.nx] then 1 else 0⟩ ≤ 3 * szT f.t.kids[f.nx] := by
      have := remL_le w (pput M (kidAddr w f.x f.nx) (.int .i64 (-1))) (kidAddr w f.x f.nx) (f.t.kids[f.nx]).kids 0
      rw [← szT_eq] at this
      simpa [remF] using this
    rw [b1] at a2
    rw [b2] at a3
    simp only [List.map_cons, List.map_nil, List.sum_cons, List.sum_nil, List.length_append, List.length_cons, List.length_nil]
    omega
theorem TInv.start {w : World} {S : Nat → Prop} {x : Addr} {t : Tr} (h : LiesAt w S x t) (p : Tr → Bool) : TInv w S p (fun _ => none) [⟨x, t, 0, if p t then 1 else 0⟩] := by
  refine ⟨fun f hf => ?_, by simp [Nest], fun k v hk => by simp at hk⟩
  rw [List.mem_singleton] at hf
  subst hf
  exact ⟨h, Nat.zero_le _, by simp [cntL]⟩
/-- how long the path is, how great a sum -/
theorem Nest.len : ∀ {l : List Fr} {n : Nat}, Nest l → (∀ f ∈ l, szT f.t < n) → l.length ≤ n
  | [], n, _, _ => by simp
  | f :: l, n, h, hb => by
    have h1 := hb f (by simp)
    have := Nest.len h.2 h.1
    simp only [List.length_cons]
    omega
/-- the first node -/
def HeadIs (a : Tr) (l : List Fr) : Prop := ∃ g r, l = g :: r ∧ g.t = a
theorem HeadIs.le {a : Tr} {l : List Fr} (h : HeadIs a l) (hn : Nest l) : (∀ f ∈ l, szT f.t ≤ szT a) ∧ l.length ≤ szT a + 1 := by
  obtain ⟨g, r, rfl, rfl⟩ := h
  refine ⟨fun f hf => ?_, ?_⟩
  · rw [List.mem_cons] at hf
    rcases hf with rfl | hf
    · exact Nat.le_refl _
    · exact Nat.le_of_lt (hn.1 f hf)
  · have := Nest.len hn.2 hn.1
    simp only [List.length_cons]
    omega
theorem HeadIs.snoc {a : Tr} {l : List Fr} (h : HeadIs a l) (f : Fr) : HeadIs a (l ++ [f]) := by
  obtain ⟨g, r, rfl, h⟩ := h
  exact ⟨g, r ++ [f], by simp, h⟩
theorem HeadIs.init {a : Tr} {l : List Fr} {f : Fr} (h : HeadIs a (l ++ [f])) (hl : l ≠ []) : HeadIs a l := by
  obtain ⟨g, r, e, h⟩ := h
  cases l with
  | nil => exact absurd rfl hl
  | cons d l =>
    simp only [List.cons_append, List.cons.injEq] at e
    exact ⟨d, l, rfl, by rw [e.1]; exact h⟩
theorem HeadIs.last {a : Tr} {l : List Fr} {f f' : Fr} (h : HeadIs a (l ++ [f])) (ht : f'.t = f.t) : HeadIs a (l ++ [f']) := by
  obtain ⟨g, r, e, h⟩ := h
  cases l with
  | nil =>
    simp only [List.nil_append, List.cons.injEq] at e
    exact ⟨f', [], rfl, by rw [ht, e.1]; exact h⟩
  | cons d l =>
    simp only [List.cons_append, List.cons.injEq] at e
    exact ⟨d, l ++ [f'], by simp, by rw [e.1]; exact h⟩
theorem HeadIs.one {a : Tr} {f : Fr} (h : HeadIs a ([] ++ [f])) : f.t = a := by
  obtain ⟨g, r, e, h⟩ := h
  simp only [List.nil_append, List.cons.injEq] at e
  rw [e.1]; exact h
/-- a place in a later world -/
theorem LiesAt.carry {w w' : World} {x : Addr} {t : Tr} (h : LiesAt w (Pl w) x t) (hb : Below w.heap.size w w') : LiesAt w' (Lt w'.heap.size) x t := by
  obtain ⟨bl, off, a, b, c, rfl, hp, h0, h1, h2, ht⟩ := h
  exact ⟨bl, off, a, b, c, rfl, Nat.lt_of_lt_of_le hp.1 hb.size, (hb.cell (p := ⟨bl, off, none⟩) hp.1).trans h0, (hb.cell (p := ⟨bl, off + 1, none⟩) hp.1).trans h1, (hb.cell (p := ⟨bl, off + 2, none⟩) hp.1).trans h2,
    ht.mono (fun k hk => Nat.lt_of_lt_of_le hk.1 hb.size) (fun k hk => hb.block k hk.1)⟩
/-- nodes, as cells -/
def frCells (l : List Fr) : List Value := l.flatMap fun f => [.pointer (some f.x), .int .i64 (f.nx : Int), .int .i64 (f.sm : Int)]
theorem frCells_length (l : List Fr) : (frCells l).length = l.length * 3 := by
  induction l with
  | nil => rfl
  | cons d l ih =>
    show ([_, _, _] ++ frCells l).length = _
    rw [List.length_append, ih]
    simp
    omega
theorem frCells_snoc (l : List Fr) (f : Fr) : frCells (l ++ [f]) = frCells l ++ [.pointer (some f.x), .int .i64 (f.nx : Int), .int .i64 (f.sm : Int)] := by simp [frCells]
theorem frCells_one (l : List Fr) : ∀ u ∈ frCells l, u.oneCell' = true := by
  intro u hu
  simp only [frCells, List.mem_flatMap] at hu
  obtain ⟨d, -, hu⟩ := hu
  simp only [List.mem_cons, List.not_mem_nil, or_false] at hu
  rcases hu with rfl | rfl | rfl <;> rfl
theorem frCells_top (l : List Fr) (f : Fr) : (frCells (l ++ [f]))[l.length * 3]? = some (.pointer (some f.x)) ∧ (frCells (l ++ [f]))[l.length * 3 + 1]? = some (.int .i64 (f.nx : Int)) ∧ (frCells (l ++ [f]))[l.length * 3 + 2]? = some (.int .i64 (f.sm : Int)) := by
  rw [frCells_snoc, ← frCells_length]
  refine ⟨?_, ?_, ?_⟩
  · rw [List.getElem?_append_right (by omega)]; simp
  · rw [List.getElem?_append_right (by omega)]; simp
  · rw [List.getElem?_append_right (by omega)]; simp
theorem frCells_set (l : List Fr) (f : Fr) (n s : Nat) : ((frCells (l ++ [f])).set (l.length * 3 + 2) (.int .i64 (s : Int))).set (l.length * 3 + 1) (.int .i64 (n : Int)) = frCells (l ++ [⟨f.x, f.t, n, s⟩]) := by
  rw [frCells_snoc, frCells_snoc, ← frCells_length]
  rw [List.set_append_right _ _ (by omega), List.set_append_right _ _ (by omega)]
  simp
end Go.Proofs.Ytocnkjicmchbdaa
/-
  THE MODEL's l1Uses and VarsUsed: how often each variable stands in a tree.
-/
namespace Go.Proofs.Ytocnkjicmchbdaa
set_option linter.unusedVariables false
set_option linter.unusedSimpArgs false
open Go.RowKit

/-- is a node the variable i? -/
def isV (i : Nat) (t : Tr) : Bool := t.op == 1 && t.num == (i : Int)
def varsOf (n : Nat) (t : Tr) : List Int := (List.range n).map fun i => (cntT (isV i) t : Int)
theorem varsOf_length (n : Nat) (t : Tr) : (varsOf n t).length = n := by simp [varsOf]
theorem varsOf_get (n : Nat) (t : Tr) (i : Nat) (h : i < (varsOf n t).length) : (varsOf n t)[i] = (cntT (isV i) t : Int) := by simp [varsOf]

theorem KidsOn.but {w w' : World} {S : Nat → Prop} {g : Nat} {ks : List Tr} {c : Value} (h : KidsOn w S ks c) (hS : ∀ k, S k → k ≠ g ∧ k < w.heap.size) (hb : ButL [g] w w') : KidsOn w' S ks c :=
  h.mono (fun _ hk => hk) fun k hk => hb.block k (hS k hk).2 (by simpa using (hS k hk).1)

/-- a tree's blocks lie below lo, but for one -/
def Off (g lo : Nat) : Nat → Prop := fun k => k ≠ g ∧ k < lo

def UseSaid (t : Tr) : Prop := ∀ (g n : Nat) (f : Nat → Nat) (o m : Int) (c : Value) (w : World), w.rowIs g 3 n (fun i => .int .i64 (f i : Int)) → n ≤ 1048576 → (∀ i, i < n → f i + (1 + szT t) ≤ 1099511627776) → KidsOn w (Off g w.heap.size) t.kids c → o = t.op → m = t.num →
  Calls Try.prog 105 #[.slice (some ⟨g, 0, none⟩) n n, .agg #[.int .i64 o, .int .i64 m, c]] w fun e w' => e = .returned (.slice (some ⟨g, 0, none⟩) n n) ∧ w'.rowIs g 3 n (fun i => .int .i64 ((f i + cntT (isV i) t : Nat) : Int)) ∧ ButL [g] w w'

set_option maxRecDepth 100000 in
set_option maxHeartbeats 1600000 in
theorem uses_step (t : Tr) (ih : ∀ i (hi : i < t.kids.length), UseSaid (t.kids[i])) : UseSaid t := by
  intro g n f o m c w hrow hn hf hk ho hm
  subst ho
  subst hm
  have HI : Hid (∀ i (hi : i < t.kids.length), UseSaid (t.kids[i])) := ih
  have HK : Hid (KidsOn w (Off g w.heap.size) t.kids c) := hk
  have HF : Hid (∀ i, i < n → f i + (1 + szT t) ≤ 1099511627776) := hf
  have HRW : Hid (w.rowIs g 3 n (fun i => .int .i64 (f i : Int))) := hrow
  have hgl : g < w.heap.size := hrow.lt
  obtain ⟨ad, cap, rfl, hl, hm, -⟩ := hk
  unfold maxLen at hm
  clear ih hf hrow
  have hcase : t.op ≠ 1 ∨ (t.op = 1 ∧ t.num < 0) ∨ (t.op = 1 ∧ 0 ≤ t.num ∧ (n : Int) ≤ t.num) ∨ (∃ j : Nat, t.op = 1 ∧ t.num = j ∧ j < n) := by
    by_cases h1 : t.op = 1
    · by_cases h2 : t.num < 0
      · exact Or.inr (Or.inl ⟨h1, h2⟩)
      · by_cases h3 : (n : Int) ≤ t.num
        · exact Or.inr (Or.inr (Or.inl ⟨h1, by omega, h3⟩))
        · exact Or.inr (Or.inr (Or.inr ⟨t.num.toNat, h1, by omega, by omega⟩))
    · exact Or.inl h1
  obtain ⟨f1, hf1⟩ : ∃ f1 : Nat → Nat, f1 = fun i => f i + (if isV i t then 1 else 0) := ⟨_, rfl⟩
  have HF1 : Hid (f1 = fun i => f i + (if isV i t then 1 else 0)) := hf1
  clear hf1
  have hbx := box_below w (.cells #[.int .i64 t.op, .int .i64 t.num, .slice ad t.kids.length cap] 31)
  have hb2 := box_cell w #[.int .i64 t.op, .int .i64 t.num, .slice ad t.kids.length cap] 31 2 _ rfl
  have HBX : Hid _ := hbx
  have HB2 : Hid _ := hb2
  clear hbx hb2
  rcases hcase with hA | ⟨hA, hB⟩ | ⟨hA, hB, hC⟩ | ⟨j, hA, hB, hC⟩
  case' inl =>
    have t1 : (t.op == 1) = false := by simpa using hA
    have HN : Hid (∀ i, i < n → isV i t = false) := fun i _ => by simp [isV, hA]
    clear hA
    go_enter Try.func105, Try.ntmps105
    go_wp2_with fail
    obtain ⟨wh, hwh⟩ : ∃ wh : World, wh = w.alloc (.cells #[.int .i64 t.op, .int .i64 t.num, .slice ad t.kids.length cap] 31) := ⟨_, rfl⟩
    rw [← hwh]
    have HR : Hid (wh.rowIs g 3 n (fun i => .int .i64 (f1 i : Int))) := by
      rw [hwh]
      refine ((HRW.out.alloc _).congr fun i hi => ?_)
      have h1 := HN.out i hi
      rw [HF1.out]
      simp [h1]
    have HBL : Hid (ButL [g] w wh) := by rw [hwh]; exact ButL.of_below HBX.out
    have c2 : wh.cell? ⟨w.heap.size, 2, none⟩ = some (.slice ad t.kids.length cap) := by rw [hwh]; exact HB2.out
    clear hwh
  case' inr.inl =>
    have t1 : (t.op == 1) = true := by simpa using hA
    have t2 : decide (0 ≤ t.num) = false := by simpa using hB
    have HN : Hid (∀ i, i < n → isV i t = false) := fun i _ => by simp [isV, hA]; omega
    clear hA
    go_enter Try.func105, Try.ntmps105
    go_wp2_with fail
    obtain ⟨wh, hwh⟩ : ∃ wh : World, wh = w.alloc (.cells #[.int .i64 t.op, .int .i64 t.num, .slice ad t.kids.length cap] 31) := ⟨_, rfl⟩
    rw [← hwh]
    have HR : Hid (wh.rowIs g 3 n (fun i => .int .i64 (f1 i : Int))) := by
      rw [hwh]
      refine ((HRW.out.alloc _).congr fun i hi => ?_)
      have h1 := HN.out i hi
      rw [HF1.out]
      simp [h1]
    have HBL : Hid (ButL [g] w wh) := by rw [hwh]; exact ButL.of_below HBX.out
    have c2 : wh.cell? ⟨w.heap.size, 2, none⟩ = some (.slice ad t.kids.length cap) := by rw [hwh]; exact HB2.out
    clear hwh
  case' inr.inr.inl =>
    have t1 : (t.op == 1) = true := by simpa using hA
    have t2 : decide (0 ≤ t.num) = true := by simpa using hB
    have t3 : decide (t.num < (n : Int)) = false := by simp; omega
    have HN : Hid (∀ i, i < n → isV i t = false) := fun i _ => by simp [isV, hA]; omega
    clear hA
    go_enter Try.func105, Try.ntmps105
    go_wp2_with fail
    obtain ⟨wh, hwh⟩ : ∃ wh : World, wh = w.alloc (.cells #[.int .i64 t.op, .int .i64 t.num, .slice ad t.kids.length cap] 31) := ⟨_, rfl⟩
    rw [← hwh]
    have HR : Hid (wh.rowIs g 3 n (fun i => .int .i64 (f1 i : Int))) := by
      rw [hwh]
      refine ((HRW.out.alloc _).congr fun i hi => ?_)
      have h1 := HN.out i hi
      rw [HF1.out]
      simp [h1]
    have HBL : Hid (ButL [g] w wh) := by rw [hwh]; exact ButL.of_below HBX.out
    have c2 : wh.cell? ⟨w.heap.size, 2, none⟩ = some (.slice ad t.kids.length cap) := by rw [hwh]; exact HB2.out
    clear hwh
  case' inr.inr.inr =>
    have t1 : (t.op == 1) = true := by simpa using hA
    have HN : Hid (∀ i, i < n → isV i t = decide (i = j)) := fun i _ => by
      by_cases h : i = j
      · subst h; simp [isV, hA, hB]
      · have h2 : ¬ (j : Int) = i := by omega
        simp [isV, hA, hB, h, h2]
    have c0 := HRW.out.cell (i := j) hC
    have z0 := HRW.out.frozen j
    have hfj := HF.out j hC
    have HNum : Hid (t.num = (j : Int)) := hB
    rw [hB]
    clear hA hB
    go_enter Try.func105, Try.ntmps105
    go_wp2_with fail
    go_region
    go_wp2_with fail
    obtain ⟨wh, hwh⟩ : ∃ wh : World, wh = ((w.setCell ⟨g, j, none⟩ (.int .i64 ((f j : Int) + 1))).alloc (.cells #[.int .i64 t.op, .int .i64 (j : Int), .slice ad t.kids.length cap] 31)).drew := ⟨_, rfl⟩
    rw [← hwh]
    have HR : Hid (wh.rowIs g 3 n (fun i => .int .i64 (f1 i : Int))) := by
      rw [hwh]
      have h0 := (HRW.out.set j (.int .i64 ((f j : Int) + 1))).alloc (.cells #[.int .i64 t.op, .int .i64 (j : Int), .slice ad t.kids.length cap] 31)
      refine (World.rowIs.congr (w := ((w.setCell ⟨g, j, none⟩ (.int .i64 ((f j : Int) + 1))).alloc (.cells #[.int .i64 t.op, .int .i64 (j : Int), .slice ad t.kids.length cap] 31))) h0 fun i hi => ?_)
      have h1 := HN.out i hi
      rw [HF1.out]
      by_cases hij : i = j
      · subst hij; simp [h1]
      · simp [h1, hij]
    have hsz1 : (w.setCell ⟨g, j, none⟩ (.int .i64 ((f j : Int) + 1))).heap.size = w.heap.size := size_setCell _ _ _
    have HBL : Hid (ButL [g] w wh) := by
      rw [hwh]
      exact (ButL.setCell w g j (by simp) _).trans (ButL.of_below (box_below _ _).drew)
    have c2 : wh.cell? ⟨w.heap.size, 2, none⟩ = some (.slice ad t.kids.length cap) := by
      rw [hwh, ← hsz1]
      exact box_cell _ _ _ 2 _ rfl
    clear hwh hsz1 c0 z0 hfj
  all_goals
    have hz0 : w.heap.size < wh.heap.size := cell_lt c2
    have HC2 : Hid (wh.cell? ⟨w.heap.size, 2, none⟩ = some (.slice ad t.kids.length cap)) := c2
    clear c2
    go_loopw [0, 5] (fun v i wr => v = .slice (some ⟨g, 0, none⟩) n n ∧ ∃ k : Nat, k ≤ t.kids.length ∧ i = .int .i64 k ∧ wr.rowIs g 3 n (fun i => .int .i64 ((f1 i + cntL (isV i) (t.kids.take k) : Nat) : Int)) ∧ ButL [g] wh wr) (fun _ i _ => t.kids.length - (intOf i).toNat)
    case atStart => exact ⟨rfl, 0, Nat.zero_le _, rfl, by simpa [cntL] using HR.out, ButL.refl _ _⟩
    case round =>
      obtain ⟨rfl, k, hk, rfl, hrow, hb⟩ := hrel
      have HRR : Hid (wr.rowIs g 3 n (fun i => .int .i64 ((f1 i + cntL (isV i) (t.kids.take k) : Nat) : Int))) := hrow
      have HB : Hid (ButL [g] wh wr) := hb
      have cr : wr.cell? ⟨w.heap.size, 2, none⟩ = some (.slice ad t.kids.length cap) := (World.cell?_of_block (a := ⟨w.heap.size, 2, none⟩) (hb.block w.heap.size hz0 (by simp; omega))).trans HC2.out
      by_cases hlt : k < t.kids.length
      · have hkr := HK.out.but (fun k hk => ⟨hk.1, hk.2⟩) (HBL.out.trans HB.out)
        obtain ⟨ad', cap', he, -, -, hr⟩ := hkr
        cases he
        rcases hr with hnil | ⟨bl, off, rfl, hS, hr⟩
        · rw [hnil] at hlt; simp at hlt
        obtain ⟨p, q, r, e0, e1, e2, ht⟩ := RowOn.at t.kids off k hlt hr
        obtain ⟨rfl, rfl, -, -, hkk⟩ := trOn_iff.1 ht
        have HKK : Hid (KidsOn wr (Off g wr.heap.size) t.kids[k].kids r) := hkk.mono (fun k hk => ⟨hk.1, Nat.lt_of_lt_of_le hk.2 (Nat.le_trans HBL.out.size HB.out.size)⟩) (fun _ _ => rfl)
        have hfk : Hid (∀ i, i < n → f1 i + cntL (isV i) (t.kids.take k) + (1 + szT t.kids[k]) ≤ 1099511627776) := fun i hi => by
          have h1 := HF.out i hi
          have h2 := szL_take_succ t.kids k hlt
          have h3 := szL_take_le t.kids (k + 1)
          have h4 := cntL_le (isV i) (t.kids.take k)
          rw [szT_eq] at h1
          rw [HF1.out]
          have h5 : (if isV i t = true then 1 else 0) ≤ 1 := by split <;> omega
          simp only
          omega
        clear hkk ht hr hrow hb
        go_wp2_with fail
        refine (HI.out k hlt g n _ _ _ r wr HRR.out hn hfk.out HKK.out rfl rfl).mono ?_
        rintro e w1 ⟨rfl, hr1, hb1⟩
        have HR1 : Hid (w1.rowIs g 3 n (fun i => .int .i64 ((f1 i + cntL (isV i) (t.kids.take (k + 1)) : Nat) : Int))) := hr1.congr fun i hi => by rw [cntL_take_succ _ _ _ hlt, Nat.add_assoc]
        have HB1 : Hid (ButL [g] wh w1) := HB.out.trans hb1
        clear hr1 hb1
        go_wp2_with fail
        go_roundw
        case rel => exact ⟨rfl, k + 1, by omega, by go_num, HR1.out, HB1.out⟩
        case measure => simp [intOf]; omega
      · have hke : k = t.kids.length := by omega
        have HV : Hid (wr.rowIs g 3 n (fun i => .int .i64 ((f i + cntT (isV i) t : Nat) : Int)) ∧ ButL [g] w wr) := by
          refine ⟨HRR.out.congr fun i hi => ?_, HBL.out.trans HB.out⟩
          rw [hke, List.take_length, HF1.out, cntT_eq, Nat.add_assoc]
        clear hke hrow hb
        go_wp2_with fail
        go_ret
        exact ⟨rfl, HV.out⟩

theorem uses_any : ∀ (n : Nat) (t : Tr), szT t ≤ n → UseSaid t := by
  intro n
  induction n with
  | zero =>
    intro t h
    exact uses_step t fun i hi => absurd (szT_lt_szL t.kids i hi) (by rw [szT_eq] at h; omega)
  | succ n ih =>
    intro t h
    exact uses_step t fun i hi => ih _ (by have := szT_lt_szL t.kids i hi; rw [szT_eq] at h; omega)
theorem uses_calls (t : Tr) : UseSaid t := uses_any _ t (Nat.le_refl _)
end Go.Proofs.Ytocnkjicmchbdaa
/-
  SLICES OF INTS IN MEMORY; the laws' own comparison and copy of them (eqIntS, toIntS).
-/
namespace Go.Proofs.Ytocnkjicmchbdaa
set_option linter.unusedVariables false
set_option linter.unusedSimpArgs false
open Go.RowKit

/-- a slice value that holds these numbers, its block out of S -/
def IntsOn (w : World) (S : Nat → Prop) (xs : List Int) (v : Value) : Prop :=
  ∃ ad cap, v = .slice ad xs.length cap ∧ xs.length ≤ cap ∧ cap ≤ maxLen ∧ (xs = [] ∨ ∃ bl off, ad = some ⟨bl, off, none⟩ ∧ S bl ∧ ∀ i (h : i < xs.length), w.cell? ⟨bl, off + i, none⟩ = some (.int .i64 xs[i]))
/-- .. in a row of its own, from block lo on -/
def IntRow (w : World) (lo : Nat) (xs : List Int) (v : Value) : Prop :=
  ∃ ad cap, v = .slice ad xs.length cap ∧ xs.length ≤ cap ∧ cap ≤ maxLen ∧ (xs = [] ∨ ∃ g f, ad = some ⟨g, 0, none⟩ ∧ lo ≤ g ∧ w.rowIs g 3 cap f ∧ ∀ i (h : i < xs.length), f i = .int .i64 xs[i])
theorem IntRow.on {w : World} {lo : Nat} {xs : List Int} {v : Value} (h : IntRow w lo xs v) : IntsOn w (fun k => lo ≤ k ∧ k < w.heap.size) xs v := by
  obtain ⟨ad, cap, e, l1, l2, h⟩ := h
  refine ⟨ad, cap, e, l1, l2, h.imp id ?_⟩
  rintro ⟨g, f, rfl, hg, hr, hf⟩
  refine ⟨g, 0, rfl, ⟨hg, hr.lt⟩, fun i hi => ?_⟩
  rw [Nat.zero_add, hr.cell (by omega), hf i hi]
theorem IntsOn.mono {w w' : World} {S S' : Nat → Prop} {xs : List Int} {v : Value} (h : IntsOn w S xs v) (hS : ∀ k, S k → S' k) (hw : ∀ k, S k → w'.heap[k]? = w.heap[k]?) : IntsOn w' S' xs v := by
  obtain ⟨ad, cap, e, l1, l2, h⟩ := h
  refine ⟨ad, cap, e, l1, l2, h.imp id ?_⟩
  rintro ⟨bl, off, rfl, hb, hc⟩
  exact ⟨bl, off, rfl, hS _ hb, fun i hi => (World.cell?_of_block (a := ⟨bl, off + i, none⟩) (hw _ hb)).trans (hc i hi)⟩
theorem IntRow.keep {w w' : World} {lo lo' : Nat} {xs : List Int} {v : Value} (h : IntRow w lo xs v) (hl : lo' ≤ lo) (hw : ∀ k, lo ≤ k → k < w.heap.size → w'.heap[k]? = w.heap[k]?) : IntRow w' lo' xs v := by
  obtain ⟨ad, cap, e, l1, l2, h⟩ := h
  refine ⟨ad, cap, e, l1, l2, h.imp id ?_⟩
  rintro ⟨g, f, rfl, hg, hr, hf⟩
  exact ⟨g, f, rfl, by omega, hr.of_block (hw g hg hr.lt), hf⟩
theorem IntRow.next {w w' : World} {lo : Nat} {xs : List Int} {v : Value} (h : IntRow w lo xs v) (hb : Below w.heap.size w w') : IntRow w' lo xs v := h.keep (Nat.le_refl _) fun k _ hk => hb.block k hk
/-- numbers that lie in a world, wherever -/
abbrev IIn (w : World) (xs : List Int) (v : Value) : Prop := IntsOn w (Lt w.heap.size) xs v
theorem IntRow.inn {w : World} {lo : Nat} {xs : List Int} {v : Value} (h : IntRow w lo xs v) : IIn w xs v := h.on.mono (fun k hk => hk.2) fun _ _ => rfl
theorem IntsOn.next {w w' : World} {xs : List Int} {v : Value} (h : IIn w xs v) (hb : Below w.heap.size w w') : IIn w' xs v :=
  h.mono (fun k (hk : k < _) => Nat.lt_of_lt_of_le hk hb.size) fun k hk => hb.block k hk

set_option maxHeartbeats 400000 in
theorem eqInts_calls (xs : List Int) (c d : Value) (w : World) (hc : IIn w xs c) (hd : IIn w xs d) :
    Calls Try.prog 38 #[c, d] w fun e w' => e = .returned (.bool true) ∧ Below w.heap.size w w' := by
  have HC : Hid (IIn w xs c) := hc
  have HD : Hid (IIn w xs d) := hd
  obtain ⟨ad, cap, rfl, hl, hm, -⟩ := hc
  obtain ⟨ad', cap', rfl, hl', hm', -⟩ := hd
  unfold maxLen at hm hm'
  have t1 : ((xs.length : Int) != xs.length) = false := by simp
  go_enter Try.func38, Try.ntmps38
  go_wp2_with fail
  go_loopw [5] (fun i wr => ∃ k : Nat, k ≤ xs.length ∧ i = .int .i64 k ∧ ∃ n, wr = w.drewN n) (fun i _ => xs.length - (intOf i).toNat)
  case atStart => exact ⟨0, Nat.zero_le _, rfl, 0, rfl⟩
  case round =>
    obtain ⟨k, hk, rfl, n, rfl⟩ := hrel
    by_cases hlt : k < xs.length
    · obtain ⟨_, _, he, -, -, hr1⟩ := HC.out
      cases he
      obtain ⟨_, _, he, -, -, hr2⟩ := HD.out
      cases he
      rcases hr1 with rfl | ⟨bl, off, rfl, -, hr1⟩
      · simp at hlt
      rcases hr2 with rfl | ⟨bl', off', rfl, -, hr2⟩
      · simp at hlt
      have c0 := hr1 k hlt
      have d0 := hr2 k hlt
      have t2 : (xs[k] != xs[k]) = false := by simp
      clear hr1 hr2
      go_wp2_with fail
      go_quiet (fail)
      go_wp2_with fail
      go_roundw
      case rel => exact ⟨k + 1, by omega, by go_num, _, rfl⟩
      case measure => simp [intOf]; omega
    · go_wp2_with fail
      go_ret
      exact ⟨rfl, below_drewN (Below.refl _ _) _⟩

theorem IntRow.none (w : World) (lo : Nat) : IntRow w lo [] (.slice none 0 0) := ⟨_, _, rfl, Nat.le_refl _, by simp [maxLen], Or.inl rfl⟩
/-- the answer: the numbers in a row of their own -/
def NewInts (xs : List Int) (w : World) (e : Ending) (w' : World) : Prop := ∃ v, e = .returned v ∧ IntRow w' w.heap.size xs v ∧ Below w.heap.size w w'
end Go.Proofs.Ytocnkjicmchbdaa
