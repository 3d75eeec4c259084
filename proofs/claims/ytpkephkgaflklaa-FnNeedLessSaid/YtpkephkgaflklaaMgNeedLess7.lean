/-
  THE MODEL's l9Need AND NeedHolds; nothing that was there is changed.
-/
import Derived.Test.YtpkephkgaflklaaMgNeedLess6
import Derived.Deep.LoopGhost
import Derived.Test.YtpkephkgaflklaaMgNeedLess5
namespace Go.Proofs.Ytpkephkgaflklaa
set_option linter.unusedVariables false
set_option linter.unusedSimpArgs false
open Go.RowKit

open Classical in
/-- it has rows as the arities say -/
noncomputable def fitO (ds : List Df) (need : List (List Bool)) : Bool := decide (FitN ds need)
open Classical in
theorem fitO_yes {ds : List Df} {need : List (List Bool)} (h : FitN ds need) : fitO ds need = true := by unfold fitO; exact decide_eq_true h
open Classical in
theorem fitO_no {ds : List Df} {need : List (List Bool)} (h : ¬ FitN ds need) : fitO ds need = false := by unfold fitO; exact decide_eq_false h
open Classical in
theorem fitO_iff {ds : List Df} {need : List (List Bool)} (h : fitO ds need = true) : FitN ds need := by unfold fitO at h; exact of_decide_eq_true h
theorem holdsO_prog {ds : List Df} {need : List (List Bool)} (h : progB ds = false) : holdsO ds need = false := by unfold holdsO; rw [h]; rfl
open Classical in
theorem holdsO_fit {ds : List Df} {need : List (List Bool)} (h : ¬ FitN ds need) : holdsO ds need = false := by unfold holdsO; rw [decide_eq_false (fun k => h k.1), Bool.and_false]
open Classical in
theorem holdsO_yes {ds : List Df} {need : List (List Bool)} (h : progB ds = true) (k : HoldN ds need) : holdsO ds need = true := by unfold holdsO; rw [h, decide_eq_true k]; rfl
open Classical in
theorem holdsO_no {ds : List Df} {need : List (List Bool)} {i v : Nat} (h1 : i < ds.length) (h2 : i < need.length) (hv : v < need[i].length) (hb : need[i][v] = true) (hn : needB need (v : Int) ds[i].2 = false) : holdsO ds need = false := by
  unfold holdsO
  rw [decide_eq_false, Bool.and_false]
  intro k
  have := k.2 i h1 h2 v hv hb
  rw [hn] at this
  cases this

set_option maxRecDepth 100000 in
set_option maxHeartbeats 800000 in
theorem l9Need_calls (ds : List Df) (need : List (List Bool)) (p q : Value) (w : World) (hp : DIn w ds p) (hn : NIn w need q) :
    Calls Try.prog 31 #[p, q] w fun e w' => e = .returned (.bool (fitO ds need)) ∧ Below w.heap.size w w' := by
  have HP := mkHid hp
  have HN := mkHid hn
  obtain ⟨adp, capp, rfl, hpl, hpm, -⟩ := hp
  obtain ⟨adn, capn, rfl, hnl, hnm, -⟩ := hn
  unfold maxLen at hpm hnm
  by_cases hlen : need.length = ds.length
  case neg =>
    have t1 : ((need.length : Int) != (ds.length : Int)) = true := by simp; omega
    have HV := mkHid (fitO_no (ds := ds) (need := need) fun h => hlen h.1)
    rw [HV.out]
    clear hlen
    go_enter Try.func31, Try.ntmps31
    go_wp2_with fail
    go_ret
    exact ⟨rfl, Below.refl _ _⟩
  have t1 : ((need.length : Int) != (ds.length : Int)) = false := by simp; omega
  have HLE := mkHid hlen
  obtain ⟨r, hr⟩ : ∃ r, r = fitO ds need := ⟨_, rfl⟩
  rw [← hr]
  have HR := mkHid hr
  clear hlen hr
  go_enter Try.func31, Try.ntmps31
  go_wp2_with fail
  go_loopw [5] (fun i wr => ∃ k : Nat, k ≤ ds.length ∧ i = .int .i64 k ∧ (∀ j (h : j < ds.length) (h' : j < need.length), j < k → (need[j].length : Int) = ds[j].1) ∧ ∃ n, wr = w.drewN n) (fun i _ => ds.length - (intOf i).toNat)
  case atStart => exact ⟨0, Nat.zero_le _, rfl, fun j _ _ h => absurd h (by omega), 0, rfl⟩
  case round =>
    obtain ⟨k, hk, rfl, hall, n, rfl⟩ := hrel
    have HA := mkHid hall
    clear hall
    by_cases hlt : k < ds.length
    · have hlt2 : k < need.length := by have := HLE.out; omega
      obtain ⟨bl, off, c, rfl, c0, -⟩ := HP.out.at k hlt
      obtain ⟨nb, noff, rv, rfl, -, n0, hrw⟩ := HN.out.at k hlt2
      obtain ⟨adr, capr, rfl, -, -, -⟩ := hrw
      by_cases hx : (need[k].length : Int) = ds[k].1
      · have t2 : ((need[k].length : Int) != ds[k].1) = false := by simp [hx]
        have HA2 : Hid (∀ j (h : j < ds.length) (h' : j < need.length), j < k + 1 → (need[j].length : Int) = ds[j].1) := by
          intro j h h' hj
          by_cases e : j = k
          · subst e; exact hx
          · exact HA.out j h h' (by omega)
        clear hx
        go_wp2_with fail
        go_quiet (fail)
        go_wp2_with fail
        go_roundw
        case rel => exact ⟨k + 1, by omega, by go_num, HA2.out, _, rfl⟩
        case measure => simp [intOf]; omega
      · have t2 : ((need[k].length : Int) != ds[k].1) = true := by simpa using hx
        have HV : Hid (r = false) := HR.out.trans (fitO_no fun h => hx (h.2 k hlt hlt2))
        clear hx
        go_wp2_with fail
        go_quiet (fail)
        go_wp2_with fail
        go_ret
        exact ⟨ret_bool HV.out.symm, below_drewN (below_drewN (Below.refl _ _) _) _⟩
    · have HV : Hid (r = true) := HR.out.trans (fitO_yes ⟨HLE.out, fun j h h' => HA.out j h h' (by omega)⟩)
      go_wp2_with fail
      go_ret
      exact ⟨ret_bool HV.out.symm, below_drewN (Below.refl _ _) _⟩

/-- a body, and what l9In says of it -/
theorem body_in {ds : List Df} {need : List (List Bool)} {adp : Option Addr} {capp : Nat} {q : Value} {w : World} (hp : DIn w ds (.slice adp ds.length capp)) (hn : NIn w need q) (hpr : progB ds = true) (hz : szL (bodies ds) ≤ 1048576) (i : Nat) (hi : i < ds.length) :
    ∃ bl off adk capk, adp = some ⟨bl, off, none⟩ ∧ w.cell? ⟨bl, off + i * 4, none⟩ = some (.int .i64 ds[i].1) ∧ w.cell? ⟨bl, off + i * 4 + 1, none⟩ = some (.int .i64 ds[i].2.op) ∧ w.cell? ⟨bl, off + i * 4 + 2, none⟩ = some (.int .i64 ds[i].2.num) ∧ w.cell? ⟨bl, off + i * 4 + 3, none⟩ = some (.slice adk ds[i].2.kids.length capk) ∧
      ∀ (W : World) (v : Int), Below w.heap.size w W → Calls Try.prog 32 #[.agg #[.int .i64 ds[i].2.op, .int .i64 ds[i].2.num, .slice adk ds[i].2.kids.length capk], .int .i64 v, q] W fun e w' => e = .returned (.bool (needB need v ds[i].2)) ∧ Below W.heap.size W w' := by
  obtain ⟨bl, off, c, rfl, c0, c1, c2, c3, -, i1, i2, hk⟩ := hp.at i hi
  obtain ⟨adk, capk, rfl, -, -, -⟩ := id hk
  refine ⟨bl, off, adk, capk, rfl, c0, c1, c2, c3, fun W v hW => l9In_calls need v _ (progB_body hpr i hi) ?_ _ _ W (hk.next hW) (hn.next hW) ⟨i1, i2⟩⟩
  have := szT_lt_szL (bodies ds) i (by rw [bodies_length]; exact hi)
  have e : (bodies ds)[i]'(by rw [bodies_length]; exact hi) = ds[i].2 := by simp [bodies]
  rw [e] at this
  omega

set_option maxRecDepth 100000 in
set_option maxHeartbeats 1600000 in
theorem specNeedHolds_calls (ds : List Df) (need : List (List Bool)) (p q : Value) (w : World) (hp : DIn w ds p) (hn : NIn w need q) (hz : szL (bodies ds) ≤ 1048576) :
    Calls Try.prog 9 #[p, q] w fun e w' => e = .returned (.bool (holdsO ds need)) ∧ Below w.heap.size w w' := by
  have HP := mkHid hp
  have HN := mkHid hn
  have HZ := mkHid hz
  obtain ⟨adp, capp, rfl, hpl, hpm, -⟩ := hp
  obtain ⟨adn, capn, rfl, hnl, hnm, -⟩ := hn
  unfold maxLen at hpm hnm
  obtain ⟨r, hr⟩ : ∃ r, r = holdsO ds need := ⟨_, rfl⟩
  rw [← hr]
  have HR := mkHid hr
  clear hr hz
  have HPV := mkHid (specProg_calls ds _ w HP.out)
  cases hpr : progB ds with
  | false =>
    have HV : Hid (r = false) := HR.out.trans (holdsO_prog hpr)
    rw [hpr] at HPV
    clear hpr
    go_enter Try.func9, Try.ntmps9
    go_wp2_with fail
    refine HPV.out.mono ?_
    rintro e w1 ⟨rfl, hb1⟩
    have HB1 := mkHid hb1
    clear hb1
    go_wp2_with fail
    go_ret
    exact ⟨ret_bool HV.out.symm, HB1.out⟩
  | true =>
    have HPR := mkHid hpr
    rw [hpr] at HPV
    clear hpr
    have HNV := mkHid fun W h => l9Need_calls ds need _ _ W (HP.out.next h) (HN.out.next h)
    cases hfi : fitO ds need with
    | false =>
      have HV : Hid (r = false) := HR.out.trans (holdsO_fit fun h => by rw [fitO_yes h] at hfi; cases hfi)
      rw [hfi] at HNV
      clear hfi
      go_enter Try.func9, Try.ntmps9
      go_wp2_with fail
      refine HPV.out.mono ?_
      rintro e w1 ⟨rfl, hb1⟩
      have HB1 := mkHid hb1
      clear hb1
      go_wp2_with fail
      refine (HNV.out _ HB1.out).mono ?_
      rintro e w2 ⟨rfl, hb2⟩
      have HB2 : Hid (Below w.heap.size w w2) := HB1.out.trans (hb2.mono HB1.out.size)
      clear hb2
      go_wp2_with fail
      go_ret
      exact ⟨ret_bool HV.out.symm, HB2.out⟩
    | true =>
      have HF := mkHid (fitO_iff hfi)
      rw [hfi] at HNV
      have HLE := mkHid HF.out.1
      have h6 : ds.length ≤ 6 := progB_len HPR.out
      have HAR := mkHid (progB_ar HPR.out)
      clear hfi
      go_enter Try.func9, Try.ntmps9
      go_wp2_with fail
      refine HPV.out.mono ?_
      rintro e w1 ⟨rfl, hb1⟩
      have HB1 := mkHid hb1
      clear hb1
      go_wp2_with fail
      refine (HNV.out _ HB1.out).mono ?_
      rintro e w2 ⟨rfl, hb2⟩
      have HB2 : Hid (Below w.heap.size w w2) := HB1.out.trans (hb2.mono HB1.out.size)
      clear hb2
      go_wp2_with fail
      go_loopw [5] (fun i wr => ∃ k : Nat, k ≤ ds.length ∧ i = .int .i64 k ∧ (∀ j (h : j < ds.length) (h' : j < need.length), j < k → ∀ (v : Nat) (hv : v < need[j].length), need[j][v] = true → needB need (v : Int) ds[j].2 = true) ∧ Below w.heap.size w wr) (fun i _ => ds.length - (intOf i).toNat)
      case atStart => exact ⟨0, Nat.zero_le _, rfl, fun j _ _ h => absurd h (by omega), HB2.out⟩
      case round =>
        obtain ⟨k, hk, rfl, hall, hb⟩ := hrel
        obtain ⟨wo, rfl⟩ : ∃ wo : World, wo = wr := ⟨_, rfl⟩
        have HA := mkHid hall
        have HB := mkHid hb
        clear hall hb
        by_cases hlt : k < ds.length
        · have hlt2 : k < need.length := by have := HLE.out; omega
          obtain ⟨bl, off, adk, capk, rfl, c0, c1, c2, c3, hc⟩ := body_in HP.out HN.out HPR.out HZ.out k hlt
          obtain ⟨nb, noff, rv, rfl, hnb, n0, hrw⟩ := HN.out.at k hlt2
          obtain ⟨adr, capr, rfl, hrl, hrm, -⟩ := id hrw
          have HRW := mkHid hrw
          have HC := mkHid hc
          have hfk := HF.out.2 k hlt hlt2
          have har := HAR.out _ (List.getElem_mem hlt)
          obtain ⟨d, hd⟩ : ∃ d, d = ds[k] := ⟨_, rfl⟩
          obtain ⟨row, hrow⟩ : ∃ row, row = need[k] := ⟨_, rfl⟩
          rw [← hd] at c0 c1 c2 c3 HC hfk har
          rw [← hrow] at n0 HRW hfk hrl
          have HD := mkHid hd
          have HRO := mkHid hrow
          have C : Hid (∀ W, Below w.heap.size w W → W.cell? ⟨bl, off + k * 4, none⟩ = some (.int .i64 d.1) ∧ W.cell? ⟨bl, off + k * 4 + 1, none⟩ = some (.int .i64 d.2.op) ∧ W.cell? ⟨bl, off + k * 4 + 2, none⟩ = some (.int .i64 d.2.num) ∧ W.cell? ⟨bl, off + k * 4 + 3, none⟩ = some (.slice adk d.2.kids.length capk) ∧ W.cell? ⟨nb, noff + k, none⟩ = some (.slice adr row.length capr)) := fun W h =>
            ⟨(h.cell (cell_lt c0)).trans c0, (h.cell (cell_lt c1)).trans c1, (h.cell (cell_lt c2)).trans c2, (h.cell (cell_lt c3)).trans c3, (h.cell (cell_lt n0)).trans n0⟩
          clear c0 c1 c2 c3 n0 hrw hc hd hrow hnb
          go_wp2_with fail
          go_loopw [6] (fun i wr => ∃ v : Nat, v ≤ row.length ∧ i = .int .i64 v ∧ (∀ (u : Nat) (hu : u < row.length), u < v → row[u] = true → needB need (u : Int) d.2 = true) ∧ Below w.heap.size w wr) (fun i _ => row.length - (intOf i).toNat)
          case atStart => exact ⟨0, Nat.zero_le _, rfl, fun u _ h => absurd h (by omega), HB.out⟩
          case round =>
            obtain ⟨v, hv, rfl, hal2, hb⟩ := hrel
            have HA2 := mkHid hal2
            have HBR := mkHid hb
            obtain ⟨c0, c1, c2, c3, n0⟩ := C.out _ hb
            rw [← hfk] at c0
            clear hal2 hb
            by_cases hvl : v < row.length
            · obtain ⟨rb, roff, rfl, hrb, hr0⟩ := HRW.out.at v hvl
              have r0 := (HBR.out.cell (cell_lt hr0)).trans hr0
              obtain ⟨b, hbe⟩ : ∃ b, b = row[v] := ⟨_, rfl⟩
              rw [← hbe] at r0
              have HBE := mkHid hbe
              have HNX : Hid ((b = true → needB need (v : Int) d.2 = true) → ∀ (u : Nat) (hu : u < row.length), u < v + 1 → row[u] = true → needB need (u : Int) d.2 = true) := by
                intro hbb u hu hlt hru
                by_cases e : u = v
                · subst e; exact hbb (HBE.out.trans hru)
                · exact HA2.out u hu (by omega) hru
              obtain ⟨x, hx⟩ : ∃ x, x = needB need (v : Int) d.2 := ⟨_, rfl⟩
              have HX := mkHid hx
              have HCC := mkHid (HC.out wr (v : Int) HBR.out)
              rw [← hx] at HCC HNX
              clear hbe hr0 hx hrb
              cases b with
              | false =>
                clear c1 c2 c3
                go_wp2_with fail
                go_roundw
                case rel => exact ⟨v + 1, by omega, by go_num, HNX.out (fun h => by cases h), HBR.out⟩
                case measure => simp [intOf]; omega
              | true =>
                go_wp2_with fail
                refine HCC.out.mono ?_
                rintro e w3 ⟨rfl, hb3⟩
                have HB3 : Hid (Below w.heap.size w w3) := HBR.out.trans (hb3.mono HBR.out.size)
                clear hb3 c0 c1 c2 c3 n0 r0
                cases x with
                | true =>
                  go_wp2_with fail
                  go_roundw
                  case rel => exact ⟨v + 1, by omega, by go_num, HNX.out (fun _ => by trivial), HB3.out⟩
                  case measure => simp [intOf]; omega
                | false =>
                  have HV : Hid (r = false) := HR.out.trans (holdsO_no (i := k) (v := v) hlt hlt2 (by rw [← HRO.out]; exact hvl) (by rw [← List.getElem_of_eq HRO.out hvl]; exact HBE.out.symm) (by rw [← HD.out]; exact HX.out.symm))
                  go_wp2_with fail
                  go_ret
                  exact ⟨ret_bool HV.out.symm, HB3.out⟩
            · have hve : v = row.length := by omega
              have HNA : Hid (∀ j (h : j < ds.length) (h' : j < need.length), j < k + 1 → ∀ (v : Nat) (hv : v < need[j].length), need[j][v] = true → needB need (v : Int) ds[j].2 = true) := by
                intro j h h' hj u hu hru
                by_cases e : j = k
                · subst e
                  have := HA2.out u (by rw [HRO.out]; exact hu) (by rw [hve, HRO.out]; exact hu) (by rw [List.getElem_of_eq HRO.out]; exact hru)
                  rw [HD.out] at this
                  exact this
                · exact HA.out j h h' (by omega) u hu hru
              clear hve c1 c2 c3 n0
              go_wp2_with fail
              go_roundw
              case rel => exact ⟨k + 1, by omega, by go_num, HNA.out, HBR.out⟩
              case measure => simp [intOf]; omega
        · have HV : Hid (r = true) := HR.out.trans (holdsO_yes HPR.out ⟨HF.out, fun j h h' => HA.out j h h' (by omega)⟩)
          go_wp2_with fail
          go_ret
          exact ⟨ret_bool HV.out.symm, HB.out⟩
end Go.Proofs.Ytpkephkgaflklaa
/-
  WHAT IS STILL NEEDED, as plain lists: a need holds if it stays.
-/
namespace Go.Proofs.Ytpkephkgaflklaa
set_option linter.unusedVariables false
set_option linter.unusedSimpArgs false
open Go.RowKit

def bitN (need : List (List Bool)) (i v : Nat) : Bool := (((need[i]?).getD [])[v]?).getD false
theorem bitN_at {need : List (List Bool)} {i v : Nat} (h : i < need.length) (hv : v < need[i].length) : bitN need i v = need[i][v] := by
  unfold bitN
  rw [List.getElem?_eq_getElem h, Option.getD_some, List.getElem?_eq_getElem hv, Option.getD_some]
def bodyN (ds : List Df) (i : Nat) : Tr := ((ds[i]?).map (·.2)).getD (.node 0 0 [])
theorem bodyN_at {ds : List Df} {i : Nat} (h : i < ds.length) : bodyN ds i = ds[i].2 := by
  unfold bodyN
  rw [List.getElem?_eq_getElem h]
  rfl
def stillF (ds : List Df) (need : List (List Bool)) (i v : Nat) : Bool := bitN need i v && needB need (v : Int) (bodyN ds i)
theorem fit_arN {ds : List Df} {need : List (List Bool)} (h : FitN ds need) {i : Nat} (h1 : i < ds.length) (h2 : i < need.length) : arN ds i = need[i].length := by
  have := h.2 i h1 h2
  unfold arN
  rw [List.getElem?_eq_getElem h1]
  simp only [Option.map_some, Option.getD_some]
  omega
theorem gridN_at {ds : List Df} {f : Nat → Nat → Bool} {i : Nat} (h : i < (gridN ds f).length) : (gridN ds f)[i] = (List.range (arN ds i)).map (f i) := by simp [gridN]
theorem gridN_length (ds : List Df) (f : Nat → Nat → Bool) : (gridN ds f).length = ds.length := by simp [gridN]
theorem grid_fit {ds : List Df} (har : ∀ d ∈ ds, 0 ≤ d.1 ∧ d.1 ≤ 4) (f : Nat → Nat → Bool) : FitN ds (gridN ds f) := by
  refine ⟨gridN_length _ _, fun i h1 h2 => ?_⟩
  rw [gridN_at h2, List.length_map, List.length_range]
  have := har _ (List.getElem_mem h1)
  unfold arN
  rw [List.getElem?_eq_getElem h1]
  simp only [Option.map_some, Option.getD_some]
  omega
/-- a need that stays holds -/
theorem still_holds {ds : List Df} {need : List (List Bool)} (hf : FitN ds need) (h : gridN ds (stillF ds need) = need) : HoldN ds need := by
  refine ⟨hf, fun i h1 h2 v hv hb => ?_⟩
  have h3 : i < (gridN ds (stillF ds need)).length := by rw [gridN_length]; exact h1
  have e := List.getElem_of_eq h h3
  rw [gridN_at] at e
  have hv2 : v < ((List.range (arN ds i)).map (stillF ds need i)).length := by rw [List.length_map, List.length_range, fit_arN hf h1 h2]; exact hv
  have e2 := List.getElem_of_eq e hv2
  rw [List.getElem_map, List.getElem_range] at e2
  rw [hb] at e2
  unfold stillF at e2
  rw [bodyN_at h1, Bool.and_eq_true] at e2
  exact e2.2
theorem holds_still {ds : List Df} {need : List (List Bool)} (h : HoldN ds need) : gridN ds (stillF ds need) = need := by
  refine List.ext_getElem (by rw [gridN_length]; exact h.1.1.symm) fun i h1 h2 => ?_
  rw [gridN_length] at h1
  rw [gridN_at]
  refine List.ext_getElem (by rw [List.length_map, List.length_range, fit_arN h.1 h1 h2]) fun v h3 h4 => ?_
  rw [List.getElem_map, List.getElem_range]
  unfold stillF
  rw [bitN_at h2 h4, bodyN_at h1]
  cases hb : need[i][v] with
  | false => rfl
  | true => rw [h.2 i h1 h2 v h4 hb]; rfl
theorem holdsO_still {ds : List Df} {need : List (List Bool)} (hp : progB ds = true) (hf : FitN ds need) : holdsO ds need = decide (gridN ds (stillF ds need) = need) := by
  by_cases h : gridN ds (stillF ds need) = need
  · rw [decide_eq_true h, holdsO_yes hp (still_holds hf h)]
  · rw [decide_eq_false h]
    cases hh : holdsO ds need with
    | false => rfl
    | true =>
      unfold holdsO at hh
      rw [Bool.and_eq_true] at hh
      exact absurd (holds_still (@of_decide_eq_true _ (Classical.propDecidable _) hh.2)) h
/-- what stays is no more, and every need that holds stays below it -/
theorem still_great {ds : List Df} {need : List (List Bool)} (hf : FitN ds need) (hg : ∀ k, HoldN ds k → LeN k need) : ∀ k, HoldN ds k → LeN k (gridN ds (stillF ds need)) := by
  intro k hk
  have hl := hg k hk
  refine ⟨by rw [gridN_length]; exact hk.1.1, fun i h1 h2 => ?_⟩
  have hd : i < ds.length := by rw [← hk.1.1]; exact h1
  have hn : i < need.length := by rw [hf.1]; exact hd
  have hr := hl.2 i h1 hn
  rw [gridN_at]
  refine ⟨by rw [List.length_map, List.length_range, fit_arN hf hd hn]; exact hr.1, fun v h3 h4 hb => ?_⟩
  rw [List.getElem_map, List.getElem_range]
  have hv : v < need[i].length := by rw [← hr.1]; exact h3
  unfold stillF
  rw [bitN_at hn hv, bodyN_at hd, hr.2 v h3 hv hb, needB_mono hl _ _ (hk.2 i hd h1 v h3 hb)]
  rfl
theorem filter_lt {α : Type} (p q : α → Bool) : ∀ (l : List α), (∀ x ∈ l, p x = true → q x = true) → (∃ x ∈ l, p x = false ∧ q x = true) → (l.filter p).length < (l.filter q).length
  | [], _, h => by obtain ⟨x, hx, -⟩ := h; simp at hx
  | a :: l, hi, h => by
    have hle : ∀ (l : List α), (∀ x ∈ l, p x = true → q x = true) → (l.filter p).length ≤ (l.filter q).length := by
      intro l
      induction l with
      | nil => intro _; simp
      | cons b l ih =>
        intro hi
        have := ih fun x hx => hi x (List.mem_cons_of_mem _ hx)
        have hb := hi b (by simp)
        cases hp : p b with
        | true => rw [List.filter_cons_of_pos hp, List.filter_cons_of_pos (hb hp)]; simpa using this
        | false =>
          rw [List.filter_cons_of_neg (by simp [hp])]
          cases hq : q b with
          | true => rw [List.filter_cons_of_pos hq]; simp; omega
          | false => rw [List.filter_cons_of_neg (by simp [hq])]; exact this
    have ha := hi a (by simp)
    have hi2 : ∀ x ∈ l, p x = true → q x = true := fun x hx => hi x (List.mem_cons_of_mem _ hx)
    cases hp : p a with
    | true =>
      rw [List.filter_cons_of_pos hp, List.filter_cons_of_pos (ha hp)]
      have := filter_lt p q l hi2 (by
        obtain ⟨x, hx, h1, h2⟩ := h
        simp only [List.mem_cons] at hx
        rcases hx with rfl | hx
        · rw [hp] at h1; cases h1
        · exact ⟨x, hx, h1, h2⟩)
      simpa using this
    | false =>
      rw [List.filter_cons_of_neg (by simp [hp])]
      cases hq : q a with
      | true =>
        rw [List.filter_cons_of_pos hq]
        have := hle l hi2
        simp; omega
      | false =>
        rw [List.filter_cons_of_neg (by simp [hq])]
        refine filter_lt p q l hi2 ?_
        obtain ⟨x, hx, h1, h2⟩ := h
        simp only [List.mem_cons] at hx
        rcases hx with rfl | hx
        · rw [hq] at h2; cases h2
        · exact ⟨x, hx, h1, h2⟩
/-- how much a grid says -/
def cntG (ds : List Df) (f : Nat → Nat → Bool) : Nat := (((List.range ds.length).flatMap fun i => (List.range (arN ds i)).map fun v => (i, v)).filter fun p => f p.1 p.2).length
/-- a step that changes something says less -/
theorem still_less {ds : List Df} {need : List (List Bool)} (hf : FitN ds need) (h : gridN ds (stillF ds need) ≠ need) : cntG ds (stillF ds need) < cntG ds (bitN need) := by
  refine filter_lt _ _ _ (fun x _ hx => by simp only [stillF, Bool.and_eq_true] at hx; exact hx.1) ?_
  apply Classical.byContradiction
  intro hno
  refine h (List.ext_getElem (by rw [gridN_length]; exact hf.1.symm) fun i h1 h2 => ?_)
  rw [gridN_length] at h1
  rw [gridN_at]
  refine List.ext_getElem (by rw [List.length_map, List.length_range, fit_arN hf h1 h2]) fun v h3 h4 => ?_
  rw [List.getElem_map, List.getElem_range]
  rw [← bitN_at h2 h4]
  have hm : (i, v) ∈ (List.range ds.length).flatMap fun i => (List.range (arN ds i)).map fun v => (i, v) := by
    simp only [List.mem_flatMap, List.mem_range, List.mem_map, Prod.mk.injEq]
    exact ⟨i, h1, v, by rw [fit_arN hf h1 h2]; exact h4, rfl, rfl⟩
  cases hs : stillF ds need i v with
  | true =>
    unfold stillF at hs
    rw [Bool.and_eq_true] at hs
    exact hs.1.symm
  | false =>
    cases hb : bitN need i v with
    | false => rfl
    | true => exact absurd ⟨(i, v), hm, hs, hb⟩ hno
theorem bitN_grid {ds : List Df} {f : Nat → Nat → Bool} {i v : Nat} (h : i < ds.length) (hv : v < arN ds i) : bitN (gridN ds f) i v = f i v := by
  have h1 : i < (gridN ds f).length := by rw [gridN_length]; exact h
  have h2 : v < (gridN ds f)[i].length := by rw [gridN_at]; simpa using hv
  rw [bitN_at h1 h2]
  have e := List.getElem_of_eq (gridN_at h1) h2
  rw [e, List.getElem_map, List.getElem_range]
theorem cntG_grid (ds : List Df) (f : Nat → Nat → Bool) : cntG ds (bitN (gridN ds f)) = cntG ds f := by
  unfold cntG
  congr 1
  refine List.filter_congr fun p hp => ?_
  simp only [List.mem_flatMap, List.mem_range, List.mem_map] at hp
  obtain ⟨i, hi, v, hv, rfl⟩ := hp
  exact bitN_grid hi hv
theorem cntG_le (ds : List Df) (f : Nat → Nat → Bool) : cntG ds f ≤ ((List.range ds.length).flatMap fun i => (List.range (arN ds i)).map fun v => (i, v)).length := List.length_filter_le _ _
theorem topN_grid {ds : List Df} : topN ds = gridN ds fun _ _ => true := by
  refine List.ext_getElem (by simp [topN, gridN]) fun i h1 h2 => ?_
  rw [gridN_length] at h2
  rw [gridN_at]
  unfold arN
  rw [List.getElem?_eq_getElem h2]
  refine List.ext_getElem (by simp [topN]) fun v h3 h4 => by simp [topN]
end Go.Proofs.Ytpkephkgaflklaa
/-
  THE MODEL's l9Args AND StrictArgs: the greatest needs that hold, in new memory.
-/
namespace Go.Proofs.Ytpkephkgaflklaa
set_option linter.unusedVariables false
set_option linter.unusedSimpArgs false
open Go.RowKit

/-- a row of one's own, as a row -/
theorem own_rowAt {w : World} {lo n : Nat} {v : Value} {r : List Bool} (h : w.ownsRow lo 4 1 v n (r.map .bool)) (hn : r.length = n) (hv : v ≠ .slice none 0 0) : ∃ b cap, v = .slice (some ⟨b, 0, none⟩) n cap ∧ lo ≤ b ∧ RowAt w b cap r := by
  rcases h.2 with ⟨h, -⟩ | ⟨b, cap, cur, rfl, hb, hh, hl, hc, hs, ht⟩
  · exact absurd h hv
  refine ⟨b, cap, rfl, hb, by omega, hc, fun i => cur.getD i undef, ⟨cur, hh, by omega, fun i hi => ?_⟩, fun j hj => ?_⟩
  · simp [Array.getElem?_eq_getElem (show i < cur.size by omega), Array.getD, (show i < cur.size by omega)]
  · have h1 : (r.map Value.bool)[j]? = some (.bool r[j]) := by simp [hj]
    rw [← ht, List.getElem?_take_of_lt (by omega), Array.getElem?_toList] at h1
    show cur.getD j undef = _
    rw [Array.getD_eq_getD_getElem?, h1]
    rfl
theorem infoBo1 : ∃ i z, Try.prog.info? 4 = some i ∧ i.zero = some z ∧ i.size = 1 ∧ i.bytes = 1 ∧ z.cells.size = 1 := by
  obtain ⟨i, hi, hzz⟩ := Option.map_eq_some_iff.1 infoBx
  simp only [Prod.mk.injEq] at hzz
  obtain ⟨hz, hs, hb⟩ := hzz
  exact ⟨i, _, hi, hz, hs, hb, rfl⟩
theorem topN_take (ds : List Df) (k : Nat) (h : k < ds.length) : (topN ds).take (k + 1) = (topN ds).take k ++ [List.replicate ds[k].1.toNat true] := by
  have hk : k < (topN ds).length := by simp [topN]; exact h
  rw [List.take_succ_eq_append_getElem hk]
  simp [topN]
/-- the rows are being made -/
def SgRel (ds : List Df) (w : World) (k : Nat) (v : Value) (wr : World) : Prop := NOwn wr w.heap.size ((topN ds).take k) v ∧ Below w.heap.size w wr
/-- what is true of the need while it shrinks -/
def SgInv (ds : List Df) (w : World) (need : List (List Bool)) (v : Value) (wr : World) : Prop := NOwn wr w.heap.size need v ∧ FitN ds need ∧ (∀ k, HoldN ds k → LeN k need) ∧ Below w.heap.size w wr

set_option maxRecDepth 100000 in
set_option maxHeartbeats 3200000 in
theorem l9Args_calls (ds : List Df) (p : Value) (w : World) (hp : DIn w ds p) (hpr : progB ds = true) (hz : szL (bodies ds) ≤ 1048576) :
    Calls Try.prog 61 #[p] w (NewN (strictA ds) w) := by
  have HP := mkHid hp
  have HPR := mkHid hpr
  have HZ := mkHid hz
  have h6 := progB_len hpr
  have HAR := mkHid (progB_ar hpr)
  obtain ⟨adp, capp, rfl, hpl, hpm, -⟩ := hp
  unfold maxLen at hpm
  clear hpr hz
  obtain ⟨iE, zE, hiE, hzE, hsE, hbE, hcE⟩ := infoE1
  have HE : Hid (Try.prog.info? 28 = some iE ∧ iE.zero = some zE ∧ iE.size = 1 ∧ iE.bytes = 24 ∧ zE.cells.size = 1) := ⟨hiE, hzE, hsE, hbE, hcE⟩
  clear hiE hzE hsE hbE hcE
  obtain ⟨iB, zB, hiB, hzB, hsB, hbB, hcB⟩ := infoBo1
  have HBo : Hid (Try.prog.info? 4 = some iB ∧ iB.zero = some zB ∧ iB.size = 1 ∧ iB.bytes = 1 ∧ zB.cells.size = 1) := ⟨hiB, hzB, hsB, hbB, hcB⟩
  clear hiB hzB hsB hbB hcB
  have HTL : Hid ((topN ds).length = ds.length) := by simp [Hid, topN]
  go_enter Try.func61, Try.ntmps61
  go_wp2_with fail
  go_loopw [3, 4] (fun v i wr => ∃ k : Nat, k ≤ ds.length ∧ i = .int .i64 k ∧ SgRel ds w k v wr) (fun _ i _ => ds.length - (intOf i).toNat)
  case atStart =>
    refine ⟨0, Nat.zero_le _, rfl, NOwn.nil_of ⟨rfl, Or.inr ⟨_, 0, #[], rfl, Nat.le_refl _, Deep.blk_alloc_new _ _, Nat.le_refl _, by unfold maxLen; omega, rfl, rfl⟩⟩, box_below _ _⟩
  case round =>
    obtain ⟨k, hk, rfl, hown, hb⟩ := hrel
    obtain ⟨wo, rfl⟩ : ∃ wo : World, wo = wr := ⟨_, rfl⟩
    have HO := mkHid hown
    have HB := mkHid hb
    clear hown hb
    by_cases hlt : k < ds.length
    · obtain ⟨bl, off, c, rfl, c0, -⟩ := HP.out.at k hlt
      have hd4 := HAR.out _ (List.getElem_mem hlt)
      obtain ⟨n, hn⟩ : ∃ n : Nat, ds[k].1 = (n : Int) := ⟨ds[k].1.toNat, by omega⟩
      have hn4 : n ≤ 4 := by omega
      have HTN : Hid (List.replicate ds[k].1.toNat true = List.replicate n true) := by rw [hn]; rfl
      rw [hn] at c0
      have C0 : Hid (∀ W, Below w.heap.size w W → W.cell? ⟨bl, off + k * 4, none⟩ = some (.int .i64 (n : Int))) := fun W h => (h.cell (cell_lt c0)).trans c0
      clear hd4 hn c0
      go_wp2_with fail
      go_loopw [5, 6] (fun rv i wr => ∃ v : Nat, v ≤ n ∧ i = .int .i64 v ∧ wr.ownsRow wo.heap.size 4 1 rv v ((List.replicate v true).map .bool) ∧ rv ≠ .slice none 0 0 ∧ Below wo.heap.size wo wr) (fun _ i _ => n - (intOf i).toNat)
      case atStart =>
        refine ⟨0, Nat.zero_le _, rfl, ⟨rfl, Or.inr ⟨_, 0, #[], rfl, Nat.le_refl _, Deep.blk_alloc_new _ _, Nat.le_refl _, by unfold maxLen; omega, rfl, rfl⟩⟩, by simp, box_below _ _⟩
      case round =>
        obtain ⟨v, hv, rfl, hrow, hne, hb⟩ := hrel
        have HRW := mkHid hrow
        have HNE := mkHid hne
        have HBR := mkHid hb
        have HBW : Hid (Below w.heap.size w wr) := HB.out.trans (hb.mono HB.out.size)
        have c0 := C0.out _ HBW.out
        have hsw := hb.size
        have hsb := HB.out.size
        clear hrow hne hb
        by_cases hvl : v < n
        · have HRX : Hid (∀ o, (wr.alloc o).ownsRow wo.heap.size 4 1 u5 v ((List.replicate v true).map .bool)) := fun o => own_keep HRW.out fun j _ hj => Deep.blk_alloc_lt _ _ _ hj
          obtain ⟨xs, hxs⟩ : ∃ xs, xs = (List.replicate v true).map Value.bool := ⟨_, rfl⟩
          have HXS := mkHid hxs
          rw [← hxs] at HRX
          clear hxs
          go_wp2_with (first
            | (at_builtin; refine wpList_append_own _ rfl _ _ 28 rfl wo.heap.size 4 iB zB 1 1 Try.underlying28 HBo.out.1 HBo.out.2.1 HBo.out.2.2.1 HBo.out.2.2.2.1 HBo.out.2.2.2.2 (by decide) u5 v xs rfl (HRX.out _) ⟨wr.heap.size, 0, none⟩ 1 1 [.bool true] rfl rfl (fun j u hu => by rw [WideShapes.add_plain, Nat.zero_add]; exact box_cell wr #[.bool true] _ j u (by simpa using hu)) (fun u hu => by simp only [List.mem_cons, List.not_mem_nil, or_false] at hu; rw [hu]; rfl) (by unfold maxLen; omega) (by omega) (by rw [Deep.nblk_alloc]; omega) ?_; intro v' w3 hown' hgrow hnil; have HX3 := mkHid hown'; have HG3 := mkHid hgrow; have HN3 : Hid (v' ≠ .slice none 0 0) := (fun e => HNE.out (hnil.1 e).1); clear hown' hgrow hnil)
            | go_in)
          have HB3 : Hid (Below wo.heap.size wo w3) := by
            have hbw := HBR.out
            have hg := HG3.out
            refine ⟨by rw [hg.os]; exact hbw.os, by rw [hg.tape]; exact hbw.tape, by rw [hg.output]; exact hbw.output, Nat.le_trans hbw.size (by have := hg.size; rw [Deep.nblk_alloc] at this; omega), fun j hj => ?_⟩
            exact ((hg.block j (by rw [Deep.nblk_alloc]; omega) (fun e => by have := own_block HRW.out e; omega)).trans (Deep.blk_alloc_lt _ _ _ (by omega))).trans (hbw.block j hj)
          have HR3 : Hid (w3.ownsRow wo.heap.size 4 1 v' (v + 1) ((List.replicate (v + 1) true).map .bool)) := by
            rw [List.replicate_succ', List.map_append]
            rw [HXS.out] at HX3
            exact HX3.out
          exact ⟨⟨v + 1, by omega, by go_num, HR3.out, HN3.out, HB3.out⟩, by simp [intOf]; omega⟩
        · have hve : v = n := by omega
          obtain ⟨b, cap, hvv, hbl, hrat⟩ := own_rowAt (r := List.replicate v true) HRW.out (by simp) HNE.out
          rw [hve] at hvv hrat
          have HRA := mkHid hrat
          subst hvv
          have HBO := mkHid HBR.out
          obtain ⟨bs, q1, q2, q3, q4⟩ := HO.out
          have Q1 := mkHid q1
          have Q2 := mkHid q2
          have Q3 := mkHid q3
          have Q4 := mkHid q4
          have hkl : ((topN ds).take k).length = k := by rw [List.length_take, HTL.out]; omega
          rw [hkl] at q3
          have HKL := mkHid hkl
          have HOX : Hid (∀ o, (wr.alloc o).ownsRow w.heap.size 28 1 u3 k (cellsN ((topN ds).take k) bs)) := fun o =>
            own_keep q3 fun j _ hj => (Deep.blk_alloc_lt _ _ _ (Nat.lt_of_lt_of_le hj hsw)).trans (HBO.out.block j hj)
          obtain ⟨xs, hxs⟩ : ∃ xs, xs = cellsN ((topN ds).take k) bs := ⟨_, rfl⟩
          have HXS := mkHid hxs
          rw [← hxs] at HOX
          have HX0 := mkHid (HOX.out (.cells #[] 4))
          clear q1 q2 q3 q4 hxs hkl hve hrat
          go_wp2_with (first
            | (at_builtin; refine wpList_append_own _ rfl _ _ 24 rfl w.heap.size 28 iE zE 1 24 Try.underlying24 HE.out.1 HE.out.2.1 HE.out.2.2.1 HE.out.2.2.2.1 HE.out.2.2.2.2 (by decide) u3 k xs rfl (HOX.out _) ⟨wr.heap.size, 0, none⟩ 1 1 [.slice (some ⟨b, 0, none⟩) n cap] rfl rfl (fun j u hu => by rw [WideShapes.add_plain, Nat.zero_add]; exact box_cell wr #[.slice (some ⟨b, 0, none⟩) n cap] _ j u (by simpa using hu)) (fun u hu => by simp only [List.mem_cons, List.not_mem_nil, or_false] at hu; rw [hu]; rfl) (by unfold maxLen; omega) (by omega) (by rw [Deep.nblk_alloc]; omega) ?_; intro v' w3 hown' hgrow hnil; have HX3 := mkHid hown'; have HG3 := mkHid hgrow; clear hown' hgrow hnil)
            | go_in)
          have HN3 : Hid (NOwn w3 w.heap.size ((topN ds).take (k + 1)) v') := by
            rw [topN_take ds k hlt, HTN.out]
            refine NOwn.push (w := wo) (w1 := wr) (b := b) (cap := cap) Q1.out Q2.out Q3.out Q4.out (fun j _ hj => HBO.out.block j hj) hbl (by omega) HRA.out ?_ (fun j hj hne => ?_) hsw
            · rw [HKL.out, List.length_replicate, ← HXS.out]; exact HX3.out
            · exact (HG3.out.block j (by rw [Deep.nblk_alloc]; omega) hne).trans (Deep.blk_alloc_lt _ _ _ hj)
          have HB3 : Hid (Below w.heap.size w w3) := by
            have hbw := HBW.out
            have hg := HG3.out
            refine ⟨by rw [hg.os]; exact hbw.os, by rw [hg.tape]; exact hbw.tape, by rw [hg.output]; exact hbw.output, Nat.le_trans hbw.size (by have := hg.size; rw [Deep.nblk_alloc] at this; omega), fun j hj => ?_⟩
            exact ((hg.block j (by rw [Deep.nblk_alloc]; omega) (fun e => by have := own_block HX0.out e; omega)).trans (Deep.blk_alloc_lt _ _ _ (by omega))).trans (hbw.block j hj)
          exact ⟨⟨k + 1, by omega, by go_num, HN3.out, HB3.out⟩, by simp [intOf]; omega⟩
    · have hke : k = ds.length := by omega
      have HS0 : Hid (SgInv ds w (topN ds) u3 wo) := by
        have h := HO.out
        rw [hke, ← HTL.out, List.take_length] at h
        exact ⟨h, topN_fit fun d hd => (HAR.out d hd).1, topN_great fun d hd => (HAR.out d hd).1, HB.out⟩
      obtain ⟨ado, capo, hof, hol, hom⟩ := HS0.out.1.form
      rw [HTL.out] at hof hol
      subst hof
      have hLE : ∀ (need : List (List Bool)) (W : World), SgInv ds w need (.slice ado ds.length capo) W → need.length = ds.length := fun need W h => h.2.1.1
      have HLE := mkHid hLE
      clear hke hom hLE
      go_wp2_with fail
      go_loopg [7] (truesN (topN ds) + 1) (fun m cv wr => ∃ (need : List (List Bool)) (c : Bool), cv = .bool c ∧ Hid (m = truesN need + (if c then 1 else 0)) ∧ SgInv ds w need (.slice ado ds.length capo) wr ∧ (c = false → HoldN ds need))
      case atStart => exact ⟨topN ds, true, rfl, rfl, HS0.out, fun h => by cases h⟩
      case round =>
        obtain ⟨need, c, rfl, HM, hinv, hst⟩ := hrel
        have HI := mkHid hinv
        have HST := mkHid hst
        clear hinv hst
        obtain ⟨wl, rfl⟩ : ∃ wl : World, wl = wr := ⟨_, rfl⟩
        cases c with
        | false =>
          have HG : Hid (strictA ds = need) := strictA_of HPR.out ⟨HST.out rfl, HI.out.2.2.1⟩
          go_wp2_with fail
          go_ret
          exact ⟨_, rfl, by rw [HG.out]; exact HI.out.1, HI.out.2.2.2⟩
        | true =>
          go_wp2_with fail
          go_loopw [7, 8] (fun cv i wr => ∃ (k : Nat) (nd : List (List Bool)) (c : Bool), k ≤ ds.length ∧ i = .int .i64 k ∧ cv = .bool c ∧ SgInv ds w nd (.slice ado ds.length capo) wr ∧ (c = true → truesN nd < truesN need) ∧ (c = false → nd = need ∧ ∀ j (h : j < ds.length) (h' : j < nd.length), j < k → ∀ (v : Nat) (hv : v < nd[j].length), nd[j][v] = true → needB nd (v : Int) ds[j].2 = true)) (fun _ i _ => ds.length - (intOf i).toNat)
          case atStart => exact ⟨0, need, false, Nat.zero_le _, rfl, rfl, HI.out, (fun h => by cases h), fun _ => ⟨rfl, fun j _ _ h => absurd h (by omega)⟩⟩
          case round =>
            obtain ⟨k, nd, c, hk, rfl, rfl, hinv, hct, hcf⟩ := hrel
            obtain ⟨wm, rfl⟩ : ∃ wm : World, wm = wr := ⟨_, rfl⟩
            have HI2 := mkHid hinv
            have HCT := mkHid hct
            have HCF := mkHid hcf
            clear hinv hct hcf
            by_cases hlt : k < ds.length
            · obtain ⟨bl, off, c', rfl, c0, c1, c2, c3, -, i1, i2, hbk⟩ := HP.out.at k hlt
              obtain ⟨adk, capk, rfl, -, -, -⟩ := id hbk
              have HBK := mkHid hbk
              have HIB := mkHid (And.intro i1 i2)
              have HSZ : Hid (szT ds[k].2 ≤ 1099511627776) := by
                have := szT_lt_szL (bodies ds) k (by rw [bodies_length]; exact hlt)
                have e : (bodies ds)[k]'(by rw [bodies_length]; exact hlt) = ds[k].2 := by simp [bodies]
                rw [e] at this
                have := HZ.out
                unfold Hid
                omega
              have HSH := mkHid (progB_body HPR.out k hlt)
              have hd4 := HAR.out _ (List.getElem_mem hlt)
              obtain ⟨n, hn⟩ : ∃ n : Nat, ds[k].1 = (n : Int) := ⟨ds[k].1.toNat, by omega⟩
              have hn4 : n ≤ 4 := by omega
              have HRL : Hid (∀ (need : List (List Bool)) (h : k < need.length), FitN ds need → need[k].length = n) := fun need h hf => by have := hf.2 k hlt h; omega
              obtain ⟨d, hd⟩ : ∃ d, d = ds[k] := ⟨_, rfl⟩
              have HD := mkHid hd
              rw [hn] at c0
              rw [← hd] at c1 c2 c3 HBK HIB HSZ HSH
              have C : Hid (∀ W, Below w.heap.size w W → W.cell? ⟨bl, off + k * 4, none⟩ = some (.int .i64 (n : Int)) ∧ W.cell? ⟨bl, off + k * 4 + 1, none⟩ = some (.int .i64 d.2.op) ∧ W.cell? ⟨bl, off + k * 4 + 2, none⟩ = some (.int .i64 d.2.num) ∧ W.cell? ⟨bl, off + k * 4 + 3, none⟩ = some (.slice adk d.2.kids.length capk)) := fun W h =>
                ⟨(h.cell (cell_lt c0)).trans c0, (h.cell (cell_lt c1)).trans c1, (h.cell (cell_lt c2)).trans c2, (h.cell (cell_lt c3)).trans c3⟩
              clear c0 c1 c2 c3 i1 i2 hbk hd4 hn hd
              go_wp2_with fail
              go_loopw [7, 9] (fun cv i wr => ∃ (v : Nat) (nx : List (List Bool)) (c : Bool), v ≤ n ∧ i = .int .i64 v ∧ cv = .bool c ∧ SgInv ds w nx (.slice ado ds.length capo) wr ∧ (c = true → truesN nx < truesN need) ∧ (c = false → nx = need ∧ (∀ j (h : j < ds.length) (h' : j < nx.length), j < k → ∀ (v : Nat) (hv : v < nx[j].length), nx[j][v] = true → needB nx (v : Int) ds[j].2 = true) ∧ ∀ (h' : k < nx.length) (u : Nat) (hu : u < nx[k].length), u < v → nx[k][u] = true → needB nx (u : Int) d.2 = true)) (fun _ i _ => n - (intOf i).toNat)
              case atStart => exact ⟨0, nd, c, Nat.zero_le _, rfl, rfl, HI2.out, HCT.out, fun h => ⟨(HCF.out h).1, (HCF.out h).2, fun _ u _ h => absurd h (by omega)⟩⟩
              case round =>
                obtain ⟨v, nx, c, hv, rfl, rfl, hinv, hct, hcf⟩ := hrel
                have HI3 := mkHid hinv
                have HCT3 := mkHid hct
                have HCF3 := mkHid hcf
                obtain ⟨c0, c1, c2, c3⟩ := C.out _ hinv.2.2.2
                have hkn : k < nx.length := by rw [HLE.out _ _ hinv]; exact hlt
                have hrl := HRL.out nx hkn hinv.2.1
                clear hinv hct hcf
                by_cases hvl : v < n
                · have hvx : v < nx[k].length := by omega
                  obtain ⟨b, rb, rc, rfl, hbz, hrb, o0, hra, hst⟩ := HI3.out.1.at k hkn
                  rw [hrl] at o0
                  obtain ⟨x, hx⟩ : ∃ x, x = nx[k][v] := ⟨_, rfl⟩
                  have r0 : wr.cell? ⟨rb, v, none⟩ = some (.bool x) := by
                    obtain ⟨h1, -, fr, hrr, hfr⟩ := hra
                    rw [hrr.cell (i := v) (by omega), hfr v hvx, hx]
                  have HX := mkHid hx
                  have HNX : Hid ((x = true → needB nx (v : Int) d.2 = true) → c = false → nx = need ∧ (∀ j (h : j < ds.length) (h' : j < nx.length), j < k → ∀ (v : Nat) (hv : v < nx[j].length), nx[j][v] = true → needB nx (v : Int) ds[j].2 = true) ∧ ∀ (h' : k < nx.length) (u : Nat) (hu : u < nx[k].length), u < v + 1 → nx[k][u] = true → needB nx (u : Int) d.2 = true) := by
                    intro hxx hc
                    obtain ⟨h1, h2, h3⟩ := HCF3.out hc
                    refine ⟨h1, h2, fun h' u hu hlt hru => ?_⟩
                    by_cases e : u = v
                    · subst e; exact hxx (HX.out.trans hru)
                    · exact h3 h' u hu (by omega) hru
                  have hvr : (v : Int) < (n : Int) := by omega
                  clear hx hra hst hbz
                  cases x with
                  | false =>
                    clear c1 c2 c3
                    go_wp2_with fail
                    go_roundw
                    case rel => exact ⟨v + 1, nx, c, by omega, by go_num, rfl, HI3.out, HCT3.out, HNX.out (fun h => by cases h)⟩
                    case measure => simp [intOf]; omega
                  | true =>
                    have HCC := mkHid (l9In_calls nx (v : Int) d.2 HSH.out HSZ.out _ (.slice (some ⟨b, 0, none⟩) ds.length capo) wr (HBK.out.next HI3.out.2.2.2) HI3.out.1.nin HIB.out)
                    obtain ⟨y, hy⟩ : ∃ y, y = needB nx (v : Int) d.2 := ⟨_, rfl⟩
                    have HY := mkHid hy
                    rw [← hy] at HCC HNX
                    clear hy
                    go_wp2_with fail
                    refine HCC.out.mono ?_
                    rintro e w4 ⟨rfl, hb4⟩
                    have HI4 : Hid (SgInv ds w nx (.slice (some ⟨b, 0, none⟩) ds.length capo) w4) := ⟨HI3.out.1.next hb4, HI3.out.2.1, HI3.out.2.2.1, HI3.out.2.2.2.trans (hb4.mono HI3.out.2.2.2.size)⟩
                    clear hb4 c0 c1 c2 c3 o0 r0
                    cases y with
                    | true =>
                      go_wp2_with fail
                      go_roundw
                      case rel => exact ⟨v + 1, nx, c, by omega, by go_num, rfl, HI4.out, HCT3.out, HNX.out (fun _ => by trivial)⟩
                      case measure => simp [intOf]; omega
                    | false =>
                      obtain ⟨b', rb, rc, he, hbz, hrb, o0, hra, hst⟩ := HI4.out.1.at k hkn
                      simp only [Option.some.injEq, Addr.mk.injEq, and_true] at he
                      subst he
                      rw [hrl] at o0
                      have r0 : w4.cell? ⟨rb, v, none⟩ = some (.bool true) := by
                        obtain ⟨h1, -, fr, hrr, hfr⟩ := hra
                        rw [hrr.cell (i := v) (by omega), hfr v hvx, HX.out]
                      have rf : w4.frozen? ⟨rb, v, none⟩ = false := by
                        obtain ⟨h1, -, fr, hrr, hfr⟩ := hra
                        exact hrr.frozen v
                      have HTR : Hid (truesN (dropN nx k v) + 1 = truesN nx) := dropN_trues hkn hvx HX.out.symm
                      have HNE : Hid (truesN (dropN nx k v) < truesN need) := by
                        have h := HTR.out
                        unfold Hid
                        cases c with
                        | true => have := HCT3.out rfl; omega
                        | false => have := congrArg truesN (HCF3.out rfl).1; omega
                      have HI5 : Hid (SgInv ds w (dropN nx k v) (.slice (some ⟨b, 0, none⟩) ds.length capo) (w4.setCell ⟨rb, v, none⟩ (.bool false))) := by
                        refine ⟨?_, dropN_fit HI4.out.2.1, dropN_great HI4.out.2.1 HI4.out.2.2.1 hkn hlt (by rw [← HD.out]; exact HY.out.symm), HI4.out.2.2.2.setCell hrb _⟩
                        unfold dropN
                        rw [List.getElem?_eq_getElem hkn, Option.getD_some]
                        exact hst v false
                      clear hra hst hbz
                      go_wp2_with fail
                      go_roundw
                      case rel => exact ⟨v + 1, _, true, by omega, by go_num, rfl, HI5.out, fun _ => HNE.out, fun h => by cases h⟩
                      case measure => simp [intOf]; omega
                · have hve : v = n := by omega
                  have HNF : Hid (c = false → nx = need ∧ ∀ j (h : j < ds.length) (h' : j < nx.length), j < k + 1 → ∀ (v : Nat) (hv : v < nx[j].length), nx[j][v] = true → needB nx (v : Int) ds[j].2 = true) := by
                    intro hc
                    obtain ⟨h1, h2, h3⟩ := HCF3.out hc
                    refine ⟨h1, fun j h h' hj u hu hru => ?_⟩
                    by_cases e : j = k
                    · subst e
                      have := h3 h' u hu (by omega) hru
                      rw [HD.out] at this
                      exact this
                    · exact h2 j h h' (by omega) u hu hru
                  clear hve c1 c2 c3
                  go_wp2_with fail
                  go_roundw
                  case rel => exact ⟨k + 1, nx, c, by omega, by go_num, rfl, HI3.out, HCT3.out, HNF.out⟩
                  case measure => simp [intOf]; omega
            · have hke : k = ds.length := by omega
              have HM2 := HM.out
              simp only [if_true] at HM2
              go_wp2_with fail
              go_roundg (truesN nd + (if c then 1 else 0))
              case rel => exact ⟨nd, c, rfl, rfl, HI2.out, fun hc => ⟨HI2.out.2.1, fun j h h' v hv hb => (HCF.out hc).2 j h h' (by omega) v hv hb⟩⟩
              case measure =>
                cases c with
                | true => have := HCT.out rfl; simp; omega
                | false => have := (HCF.out rfl).1; rw [this]; simp; omega

set_option maxHeartbeats 400000 in
theorem specStrictArgs_calls (ds : List Df) (p : Value) (w : World) (hp : DIn w ds p) (hz : szL (bodies ds) ≤ 1048576) :
    Calls Try.prog 24 #[p] w (NewN (strictA ds) w) := by
  have HP := mkHid hp
  have HPV := mkHid (specProg_calls ds _ w hp)
  obtain ⟨adp, capp, rfl, -, -, -⟩ := hp
  cases hpr : progB ds with
  | false =>
    rw [hpr] at HPV
    rw [strictA_no hpr]
    clear hpr
    go_enter Try.func24, Try.ntmps24
    go_wp2_with fail
    refine HPV.out.mono ?_
    rintro e w1 ⟨rfl, hb1⟩
    have HB1 := mkHid hb1
    have HNO : Hid (NOwn (w1.alloc (.cells #[] 28)) w.heap.size [] (.slice (some ⟨w1.heap.size, 0, none⟩) 0 0)) := NOwn.nil_of ⟨rfl, Or.inr ⟨_, 0, #[], rfl, hb1.size, Deep.blk_alloc_new _ _, Nat.le_refl _, by unfold maxLen; omega, rfl, rfl⟩⟩
    clear hb1
    go_wp2_with fail
    go_ret
    exact ⟨_, rfl, HNO.out, HB1.out.alloc HB1.out.size _⟩
  | true =>
    rw [hpr] at HPV
    have HPR := mkHid hpr
    have HZ := mkHid hz
    clear hpr hz
    go_enter Try.func24, Try.ntmps24
    go_wp2_with fail
    refine HPV.out.mono ?_
    rintro e w1 ⟨rfl, hb1⟩
    have HB1 := mkHid hb1
    clear hb1
    go_wp2_with fail
    refine (l9Args_calls ds _ w1 (HP.out.next HB1.out) HPR.out HZ.out).mono ?_
    rintro e w2 ⟨v, rfl, hv, hb2⟩
    have HV2 : Hid (NOwn w2 w.heap.size (strictA ds) v) := hv.down HB1.out.size
    have HB2 : Hid (Below w.heap.size w w2) := HB1.out.trans (hb2.mono HB1.out.size)
    clear hv hb2
    go_wp2_with fail
    go_ret
    exact ⟨_, rfl, HV2.out, HB2.out⟩
end Go.Proofs.Ytpkephkgaflklaa
/-
  THE MODEL's DrawNeedHolds: a valid program, or an empty one, and needs of any kind.
-/
namespace Go.Proofs.Ytpkephkgaflklaa
set_option linter.unusedVariables false
set_option linter.unusedSimpArgs false
open Go.RowKit

theorem NeedsOn.tail {w : World} {g : List (List Bool)} {bl off n cap : Nat} (h : NIn w g (.slice (some ⟨bl, off, none⟩) n cap)) (h1 : 1 ≤ n) : NIn w g.tail (.slice (some ⟨bl, off + 1, none⟩) (n - 1) (cap - 1)) := by
  obtain ⟨ad', cap', he, l1, l2, hr⟩ := h
  simp only [Value.slice.injEq] at he
  obtain ⟨rfl, rfl, rfl⟩ := he
  refine ⟨_, _, by rw [List.length_tail], by rw [List.length_tail]; omega, by omega, ?_⟩
  rcases hr with rfl | ⟨b', o', e, hb, hr⟩
  · exact Or.inl rfl
  · simp only [Option.some.injEq, Addr.mk.injEq, and_true] at e
    obtain ⟨rfl, rfl⟩ := e
    refine Or.inr ⟨_, _, rfl, hb, fun i hi => ?_⟩
    rw [List.length_tail] at hi
    obtain ⟨c, h1, h2⟩ := hr (i + 1) (by omega)
    refine ⟨c, by rw [show off + 1 + i = off + (i + 1) by omega]; exact h1, ?_⟩
    rw [List.getElem_tail]
    exact h2
/-- a drawn program and needs -/
def DrawnN (w : World) (e : Ending) (w' : World) : Prop :=
  ∃ ds need pv nv, e = .returned (.tuple #[pv, nv]) ∧ progB ds = true ∧ DefsOn w' (PN w.heap.size w') ds pv ∧ NIn w' need nv ∧ Below w.heap.size w w'
/-- what the loops keep -/
structure DnR (b n : Nat) (w2 w3 wr : World) (nv : Value) (p : Nat) (g : List (List Bool)) : Prop where
  own : NOwn wr w2.heap.size g nv
  len : g.length = n
  rows : ∀ r ∈ g, r.length ≤ 4
  rd : RdOn wr b p
  but : But b w2 wr
  size : w3.heap.size ≤ wr.heap.size
theorem DnR.set {b n : Nat} {w2 w3 wr : World} {ad : Option Addr} {m cap : Nat} {p : Nat} {g : List (List Bool)} (h : DnR b n w2 w3 wr (.slice ad m cap) p g) (hb : b < w2.heap.size) (i : Nat) (hi : i < g.length) :
    ∃ bl rb rc, ad = some ⟨bl, 0, none⟩ ∧ wr.cell? ⟨bl, i, none⟩ = some (.slice (some ⟨rb, 0, none⟩) g[i].length rc) ∧ g[i].length ≤ rc ∧ rc ≤ maxLen ∧ (∀ j (hj : j < g[i].length), wr.cell? ⟨rb, j, none⟩ = some (.bool (g[i])[j])) ∧
      (∀ j, wr.frozen? ⟨rb, j, none⟩ = false) ∧ bl ≠ b ∧ rb ≠ b ∧ bl < wr.heap.size ∧ rb < wr.heap.size ∧ ∀ (v : Nat) (x : Bool), DnR b n w2 w3 (wr.setCell ⟨rb, v, none⟩ (.bool x)) (.slice ad m cap) p (g.set i (g[i].set v x)) := by
  obtain ⟨bl, rb, rc, rfl, hbl, hlo, hc, hra, hset⟩ := h.own.at i hi
  obtain ⟨xs, -, -, hown, -⟩ := h.own
  have hbl2 : w2.heap.size ≤ bl := (own_some hown bl rfl).1
  have hra' := hra
  obtain ⟨hl, hm, f, hr, hf⟩ := hra
  refine ⟨bl, rb, rc, rfl, hc, hl, hm, fun j hj => by rw [hr.cell (by omega), hf j hj], fun j => hr.frozen j, by omega, by omega, hbl, hra'.lt, fun v x => ⟨hset v x, by rw [List.length_set]; exact h.len, ?_, h.rd.setCell (by show b < rb; omega) _, h.but.setNew hlo _, by rw [size_setCell]; exact h.size⟩⟩
  intro q hq
  rcases List.mem_or_eq_of_mem_set hq with h1 | h1
  · exact h.rows q h1
  · rw [h1, List.length_set]; exact h.rows _ (List.getElem_mem hi)
theorem DnR.next {b n : Nat} {w2 w3 wr wr' : World} {nv : Value} {p q : Nat} {g : List (List Bool)} (h : DnR b n w2 w3 wr nv p g) (hb : b < w2.heap.size) (hr : RdOn wr' b q) (hw : But b wr wr') : DnR b n w2 w3 wr' nv q g :=
  ⟨h.own.keep fun k h1 h2 => hw.block k h2 (by omega), h.len, h.rows, hr, h.but.trans hw, Nat.le_trans h.size hw.size⟩
theorem DnR.drew {b n : Nat} {w2 w3 wr : World} {nv : Value} {p : Nat} {g : List (List Bool)} (h : DnR b n w2 w3 wr nv p g) : DnR b n w2 w3 wr.drew nv p g :=
  ⟨h.own.keep fun k _ _ => rfl, h.len, h.rows, h.rd.keep fun k _ => rfl, h.but.drew, h.size⟩
theorem progB_small {ds : List Df} (h : progB ds = true) : szL (bodies ds) ≤ 1048576 := by
  have h6 := progB_len h
  have key : ∀ l : List Df, (∀ d ∈ l, szT d.2 ≤ 60) → szL (bodies l) ≤ l.length * 61 := by
    intro l
    induction l with
    | nil => intro _; simp [bodies, szL]
    | cons d l ih =>
      intro hl
      have h1 := hl d (by simp)
      have h2 := ih fun d hd => hl d (by simp [hd])
      show szL (d.2 :: bodies l) ≤ (l.length + 1) * 61
      unfold szL
      omega
  have := key ds fun d hd => by
    unfold progB at h
    simp only [Bool.and_eq_true, decide_eq_true_eq, List.all_eq_true] at h
    exact valid_sz60 (h.2 d hd)
  omega
theorem strictA_rows {ds : List Df} (h : progB ds = true) : (strictA ds).length = ds.length ∧ ∀ r ∈ strictA ds, r.length ≤ 4 := by
  obtain ⟨⟨h1, h2⟩, -⟩ := (strictA_great h).1
  refine ⟨h1, fun r hr => ?_⟩
  obtain ⟨i, hi, rfl⟩ := List.getElem_of_mem hr
  have e := h2 i (by omega) hi
  have := (progB_ar h _ (List.getElem_mem (by omega : i < ds.length))).2
  omega

set_option maxRecDepth 100000 in
set_option maxHeartbeats 3200000 in
theorem drawNeed_calls (len : Nat) (v : Value) (w : World) (h : BytesOn w (Lt w.heap.size) len v) :
    Calls Try.prog 7 #[v] w (DrawnN w) := by
  have H := mkHid h
  clear h
  go_enter Try.func7, Try.ntmps7
  go_wp2_with fail
  refine (open_calls len _ w H.out).mono ?_
  rintro e w1 ⟨rfl, hr1, hb1⟩
  have HR1 := mkHid hr1
  have HB1 := mkHid hb1
  clear hr1 hb1
  obtain ⟨b, hb⟩ : ∃ b, b = w.heap.size := ⟨_, rfl⟩
  have HBE := mkHid hb
  rw [← hb] at HR1 ⊢
  clear hb
  go_wp2_with fail
  refine (l1Draw_calls w1 _ 0 HR1.out (by omega)).mono ?_
  rintro e w2 ⟨ds, pv, rfl, hp, hd, hr2, hbt⟩
  have HP := mkHid hp
  have HD := mkHid hd
  have HR2 := mkHid hr2
  have HBT := mkHid hbt
  have hbl : b < w2.heap.size := hr2.lt
  have HSG := mkHid (specStrictArgs_calls ds pv w2 (hd.mono (fun _ hk => hk.2.1) (fun _ _ => rfl)) (progB_small hp))
  clear hp hd hr2 hbt
  go_wp2_with fail
  refine HSG.out.mono ?_
  rintro e w3 ⟨nv, rfl, hn3, hb3⟩
  obtain ⟨n, hn⟩ : ∃ n, n = ds.length := ⟨_, rfl⟩
  have hrows := strictA_rows HP.out
  have hn6 : n ≤ 6 := by rw [hn]; exact progB_len HP.out
  have HDN : Hid (DnR b n w2 w3 w3 nv 1 (strictA ds)) := ⟨hn3, by rw [hrows.1, hn], hrows.2, HR2.out.next hb3, But.of_below hb3, Nat.le_refl _⟩
  obtain ⟨ad, cap, hnv, hcap1, hcap2⟩ := hn3.form
  rw [hrows.1, ← hn] at hnv hcap1
  subst hnv
  unfold maxLen at hcap2
  have HB3 := mkHid hb3
  clear hrows hn3 hb3 hn
  go_wp2_with fail
  go_loopw [7] (fun iv wr => ∃ (i p : Nat) (g : List (List Bool)), i ≤ n ∧ iv = .int .i64 (i : Int) ∧ p ≤ 1 + i * 4 ∧ Hid (DnR b n w2 w3 wr (.slice ad n cap) p g)) (fun iv _ => n - (intOf iv).toNat)
  case atStart => exact ⟨0, 1, _, Nat.zero_le _, rfl, Nat.le_refl _, HDN.out⟩
  case round =>
    obtain ⟨i, p, g, hi, rfl, hpi, HW⟩ := hrel
    by_cases hlt : i < n
    · have hig : i < g.length := by rw [HW.out.len]; exact hlt
      obtain ⟨bl, rb, rc, rfl, c0, hmr, hrc, -, -, hne1, hne2, hbw, hrw, -⟩ := HW.out.set hbl i hig
      obtain ⟨m, hm⟩ : ∃ m, m = g[i].length := ⟨_, rfl⟩
      have hm4 : m ≤ 4 := by rw [hm]; exact HW.out.rows _ (List.getElem_mem hig)
      have HM : Hid (∃ hi : i < g.length, g[i].length = m) := ⟨hig, hm.symm⟩
      rw [← hm] at c0 hmr
      unfold maxLen at hrc
      clear hm
      go_wp2_with fail
      go_loopw [8] (fun vv wr' => ∃ (v q : Nat) (g' : List (List Bool)), v ≤ m ∧ vv = .int .i64 (v : Int) ∧ q ≤ p + v ∧ Hid (DnR b n w2 w3 wr' (.slice (some ⟨bl, 0, none⟩) n cap) q g') ∧ Hid (∃ hi : i < g'.length, g'[i].length = m)) (fun vv _ => m - (intOf vv).toNat)
      case atStart => exact ⟨0, p, g, Nat.zero_le _, rfl, Nat.le_refl _, HW, HM⟩
      case round =>
        obtain ⟨v', q, g', hv, rfl, hq, HW2, HM2⟩ := hrel
        obtain ⟨hig2, hgm⟩ := HM2.out
        obtain ⟨bl2, rb2, rc2, e2, d0, hmr2, hrc2, -, -, -⟩ := HW2.out.set hbl i hig2
        simp only [Option.some.injEq, Addr.mk.injEq, and_true] at e2
        subst e2
        rw [hgm] at d0 hmr2
        unfold maxLen at hrc2
        clear hgm c0
        by_cases hvm : v' < m
        · go_wp2_with fail
          refine (pick_calls 5 _ b q HW2.out.rd (by omega) (by decide)).mono ?_
          rintro e w5 ⟨x, rfl, hx0, hx5, -, hr5, hb5⟩
          have HW5 := mkHid (HW2.out.next hbl hr5 hb5)
          clear hr5 hb5 hx5
          by_cases hx : x = 0
          · subst hx
            obtain ⟨bl3, rb3, rc3, e3, f0, hmr3, hrc3, hcv, hfz, hn3, hn4, hbw3, hrw3, hset⟩ := HW5.out.set hbl i hig2
            simp only [Option.some.injEq, Addr.mk.injEq, and_true] at e3
            subst e3
            obtain ⟨hig3, hgm3⟩ := HM2.out
            have hv3 : v' < g'[i].length := by rw [hgm3]; exact hvm
            have f1 := hcv v' hv3
            obtain ⟨bb, hbb⟩ : ∃ bb, bb = g'[i][v'] := ⟨_, rfl⟩
            rw [← hbb] at f1
            have f2 := hfz v'
            rw [hgm3] at f0 hmr3
            have HS5 := mkHid hset
            have HM5 : Hid (∀ x : Bool, ∃ hi : i < (g'.set i (g'[i].set v' x)).length, (g'.set i (g'[i].set v' x))[i].length = m) := fun x => ⟨by rw [List.length_set]; exact hig3, by rw [List.getElem_set_self, List.length_set]; exact hgm3⟩
            unfold maxLen at hrc3
            clear hset hcv hfz hgm3 hv3 hbb d0
            have HW6 : Hid (DnR b n w2 w3 (w5.drew.setCell ⟨rb3, v', none⟩ (.bool (!bb))) (.slice (some ⟨bl, 0, none⟩) n cap) (q + 1) (g'.set i (g'[i].set v' (!bb)))) := (HS5.out v' (!bb)).drew
            go_wp2_with fail
            go_region_law (fail)
            all_goals
              go_wp2_with fail
              exact ⟨⟨v' + 1, q + 1, _, hvm, by simp, by omega, HW6, HM5.out _⟩, by simp only [intOf]; omega⟩
          · have hx2 : (x == 0) = false := by simpa using hx
            go_wp2_with fail
            exact ⟨⟨v' + 1, q + 1, g', hvm, by simp, by omega, HW5, HM2⟩, by simp only [intOf]; omega⟩
        · have hvm2 : v' = m := by omega
          go_wp2_with fail
          exact ⟨⟨i + 1, q, g', hlt, by simp, by omega, HW2⟩, by simp only [intOf]; omega⟩
    · have hin : i = n := by omega
      have HEND : Hid (∀ (wf : World) (nv : Value) (need : List (List Bool)), But b wr wf → NIn wf need nv → DrawnN w (.returned (.tuple #[pv, nv])) wf) := fun wf nv need hbf hnn => by
        have hbt2 := (HW.out.but.trans hbf)
        have hz1 := HB1.out.size
        have hz2 := HBT.out.size
        have hz3 := HBE.out
        refine ⟨ds, need, pv, nv, rfl, HP.out, HD.out.mono (fun k hk => hk.go hz1 (hbt2.block k hk.2.1 ?_)) (fun k hk => hbt2.block k hk.2.1 ?_), hnn, HB1.out.trans ((HBT.out.below (by omega) (by omega)).trans ((hbt2.below (by omega) (by omega))))⟩
        · have h1 : w1.heap.size ≤ k := hk.1
          have := HR1.out.lt
          omega
        · have h1 : w1.heap.size ≤ k := hk.1
          have := HR1.out.lt
          omega
      clear hin
      rcases Nat.eq_zero_or_pos n with hn0 | hn0
      · subst hn0
        go_wp2_with fail
        go_ret2
        exact HEND.out _ _ _ ⟨rfl, rfl, rfl, Nat.le_refl _, fun _ _ _ => rfl⟩ HW.out.own.nin
      · obtain ⟨bl, -, -, rfl, -⟩ := HW.out.set hbl 0 (by rw [HW.out.len]; exact hn0)
        go_wp2_with fail
        refine (pick_calls 12 _ b p HW.out.rd (by omega) (by decide)).mono ?_
        rintro e w5 ⟨x, rfl, hx0, hx5, -, hr5, hb5⟩
        have HW5 := mkHid (HW.out.next hbl hr5 hb5)
        have HB5 := mkHid hb5
        clear hr5 hb5 hx5
        by_cases hx : x = 0
        · subst hx
          have hgl := HW5.out.len
          have HGL := mkHid hgl
          clear hgl
          by_cases hc1 : cap = 1
          · have hn1 : n = 1 := by omega
            have HT0 : Hid (NIn w5 g.tail (.slice (some ⟨bl, 0, none⟩) 0 0)) := by
              have e : g.tail = [] := List.eq_nil_of_length_eq_zero (by rw [List.length_tail, HGL.out, hn1])
              rw [Hid, e]
              exact ⟨_, 0, rfl, Nat.le_refl _, by simp [maxLen], Or.inl rfl⟩
            subst hc1
            subst hn1
            go_wp2_with fail
            go_ret2
            exact HEND.out _ _ _ HB5.out HT0.out
          · have HT1 : Hid (NIn w5 g.tail (.slice (some ⟨bl, 1, none⟩) (n - 1) (cap - 1))) := by have h := HW5.out.own.nin.tail hn0; rwa [Nat.zero_add] at h
            have hc2 : ¬ cap - 1 = 0 := by omega
            go_wp2_with fail
            go_ret2
            exact HEND.out _ _ _ HB5.out HT1.out
        · have hx2 : (x == 0) = false := by simpa using hx
          go_wp2_with fail
          go_ret2
          exact HEND.out _ _ _ HB5.out HW5.out.own.nin
end Go.Proofs.Ytpkephkgaflklaa
/-
  THE PROGRAM's ofArgs, of what stillNeeded$1 says.
-/
namespace Go.Proofs.Ytpkephkgaflklaa
set_option linter.unusedVariables false
set_option linter.unusedSimpArgs false
open Go.RowKit

set_option maxRecDepth 100000 in
set_option maxHeartbeats 1600000 in
theorem ofStill_calls (ds : List Df) (f : Nat → Nat → Bool) (p : Value) (nb pb : Nat) (w : World) (hp : DIn w ds p) (h6 : ds.length ≤ 6) (har : ∀ d ∈ ds, 0 ≤ d.1 ∧ d.1 ≤ 4)
    (hsay : ∀ (W : World) (i v : Nat), Below w.heap.size w W → i < ds.length → v < arN ds i → Calls Try.prog 65 #[.int .i64 (i : Int), .int .i64 (v : Int), .pointer (some ⟨nb, 0, none⟩), .pointer (some ⟨pb, 0, none⟩)] W fun e w' => e = .returned (.bool (f i v)) ∧ Below W.heap.size W w') :
    Calls Try.prog 64 #[p, .func (.func 65) #[] #[.pointer (some ⟨nb, 0, none⟩), .pointer (some ⟨pb, 0, none⟩)]] w (NewN (gridN ds f) w) := by
  have HP := mkHid hp
  have HSAY := mkHid hsay
  have HAR := mkHid har
  obtain ⟨adp, capp, rfl, hpl, hpm, -⟩ := hp
  unfold maxLen at hpm
  clear hsay har
  obtain ⟨iE, zE, hiE, hzE, hsE, hbE, hcE⟩ := infoE1
  have HE : Hid (Try.prog.info? 28 = some iE ∧ iE.zero = some zE ∧ iE.size = 1 ∧ iE.bytes = 24 ∧ zE.cells.size = 1) := ⟨hiE, hzE, hsE, hbE, hcE⟩
  clear hiE hzE hsE hbE hcE
  go_enter Try.func64, Try.ntmps64
  go_wp2_with fail
  go_loopw [5, 12] (fun v i wr => ∃ k : Nat, k ≤ ds.length ∧ i = .int .i64 k ∧ NOwn wr w.heap.size (gridK ds f k) v ∧ Below w.heap.size w wr) (fun _ i _ => ds.length - (intOf i).toNat)
  case atStart => exact ⟨0, Nat.zero_le _, rfl, NOwn.nil _ _, Below.refl _ _⟩
  case round =>
    obtain ⟨k, hk, rfl, hown, hb⟩ := hrel
    obtain ⟨wo, rfl⟩ : ∃ wo : World, wo = wr := ⟨_, rfl⟩
    have HO := mkHid hown
    have HB := mkHid hb
    clear hown hb
    by_cases hlt : k < ds.length
    · obtain ⟨bl, off, c, rfl, c0, c1, c2, c3, -, -, -, hkk⟩ := (HP.out.next HB.out).at k hlt
      obtain ⟨adk, capk, rfl, -, -, -⟩ := id hkk
      have hd4 := HAR.out _ (List.getElem_mem hlt)
      obtain ⟨n, hn⟩ : ∃ n : Nat, ds[k].1 = (n : Int) := ⟨ds[k].1.toNat, by omega⟩
      have hn4 : n ≤ 4 := by omega
      have HAN : Hid (arN ds k = n) := by unfold Hid arN; rw [List.getElem?_eq_getElem hlt]; simp; omega
      obtain ⟨o, ho⟩ : ∃ o, o = ds[k].2.op := ⟨_, rfl⟩
      obtain ⟨m, hm⟩ : ∃ m, m = ds[k].2.num := ⟨_, rfl⟩
      obtain ⟨q, hq⟩ : ∃ q, q = ds[k].2.kids.length := ⟨_, rfl⟩
      rw [hn] at c0
      rw [← ho] at c1
      rw [← hm] at c2
      rw [← hq] at c3
      have hmk := make_boolx n (by omega)
      have HBD : Hid (Below wo.heap.size wo (wo.alloc (.cells #[.int .i64 (n : Int), .int .i64 o, .int .i64 m, .slice adk q capk] 33))) := box_below _ _
      obtain ⟨wd, hwd⟩ : ∃ wd, wd = wo.alloc (.cells #[.int .i64 (n : Int), .int .i64 o, .int .i64 m, .slice adk q capk] 33) := ⟨_, rfl⟩
      have HWD := mkHid hwd
      rw [← hwd] at HBD
      have hsd : wd.heap.size = wo.heap.size + 1 := by rw [hwd, Deep.nblk_alloc]
      have HBM : Hid (Below (wo.heap.size + 1) wd (wd.alloc (.cells (madeCells #[.bool false] n) 4))) := by rw [← hsd]; exact box_below _ _
      have HRS : Hid (RowAt (wd.alloc (.cells (madeCells #[.bool false] n) 4)) (wo.heap.size + 1) n (halfR n (f k) 0)) := by rw [halfR_zero, ← hsd]; exact rowAt_start wd n (by omega)
      have HSD := mkHid hsd
      clear hsd
      clear hkk hd4 hn ho hm hq hwd
      go_wp2_with fail
      rw [← HWD.out]
      go_loopw [22] (fun i wr => ∃ v : Nat, v ≤ n ∧ i = .int .i64 v ∧ RowAt wr (wo.heap.size + 1) n (halfR n (f k) v) ∧ Below (wo.heap.size + 1) wd wr) (fun i _ => n - (intOf i).toNat)
      case atStart => exact ⟨0, Nat.zero_le _, rfl, HRS.out, HBM.out⟩
      case round =>
        obtain ⟨v, hv, rfl, hrow, hb⟩ := hrel
        have HBR := mkHid hb
        have HRW := mkHid hrow
        have HBW : Hid (Below w.heap.size w wr) := HB.out.trans ((HBD.out.trans (hb.mono (by omega))).mono HB.out.size)
        clear hb hrow c0 c1 c2 c3
        by_cases hvl2 : v < n
        · have hvn : v < arN ds k := by rw [HAN.out]; exact hvl2
          have hvI : (v : Int) < (n : Int) := by omega
          go_wp2_with fail
          refine (HSAY.out wr k v HBW.out hlt hvn).mono ?_
          rintro e w3 ⟨rfl, hb3⟩
          have hr3 : RowAt w3 (wo.heap.size + 1) n (halfR n (f k) v) := HRW.out.blk (hb3.block _ HRW.out.lt)
          have HB3 : Hid (Below (wo.heap.size + 1) wd w3) := HBR.out.trans (hb3.mono (by have := HBR.out.size; have := HSD.out; omega))
          have HR4 : Hid (RowAt (w3.setCell ⟨wo.heap.size + 1, v, none⟩ (.bool (f k v))) (wo.heap.size + 1) n (halfR n (f k) (v + 1))) := by have := hr3.set v (f k v); rwa [halfR_succ] at this
          have HB4 : Hid (Below (wo.heap.size + 1) wd (w3.setCell ⟨wo.heap.size + 1, v, none⟩ (.bool (f k v)))) := HB3.out.setCell (Nat.le_refl _) _
          obtain ⟨-, -, fr, hrr, hfr⟩ := hr3
          have x0 := hrr.cell (i := v) hvl2
          have xf := hrr.frozen v
          obtain ⟨y, hy⟩ : ∃ y, y = f k v := ⟨_, rfl⟩
          rw [← hy] at HR4 HB4 ⊢
          clear hb3 hrr hfr hy
          go_wp2_with fail
          go_roundw
          case rel => exact ⟨v + 1, by omega, by go_num, HR4.out, HB4.out⟩
          case measure => simp [intOf]; omega
        · have hve : v = n := by omega
          have HRE : Hid (RowAt wr (wo.heap.size + 1) n ((List.range (arN ds k)).map (f k))) := by rw [HAN.out]; have := HRW.out; rw [hve, halfR_end] at this; exact this
          have HRL : Hid (((List.range (arN ds k)).map (f k)).length = n) := by simp [Hid, HAN.out]
          have hbo : Below wo.heap.size wo wr := HBD.out.trans (HBR.out.mono (by omega))
          have HBO := mkHid hbo
          obtain ⟨bs, q1, q2, q3, q4⟩ := HO.out
          have Q1 := mkHid q1
          have Q2 := mkHid q2
          have Q3 := mkHid q3
          have Q4 := mkHid q4
          rw [gridK_length] at q3
          have HOX : Hid (∀ o, (wr.alloc o).ownsRow w.heap.size 28 1 u5 k (cellsN (gridK ds f k) bs)) := fun o =>
            own_keep q3 fun j _ hj => (Deep.blk_alloc_lt _ _ _ (Nat.lt_of_lt_of_le hj hbo.size)).trans (hbo.block j hj)
          obtain ⟨xs, hxs⟩ : ∃ xs, xs = cellsN (gridK ds f k) bs := ⟨_, rfl⟩
          have HXS := mkHid hxs
          rw [← hxs] at HOX
          have HX0 := mkHid (HOX.out (.cells #[] 4))
          clear q1 q2 q3 q4 hxs
          clear hbo hve
          have hwos := HBO.out.size
          have hwsz := HB.out.size
          have hdsz := HBD.out.size
          go_wp2_with (first
            | (at_builtin; refine wpList_append_own _ rfl _ _ 24 rfl w.heap.size 28 iE zE 1 24 Try.underlying24 HE.out.1 HE.out.2.1 HE.out.2.2.1 HE.out.2.2.2.1 HE.out.2.2.2.2 (by decide) u5 k xs rfl (HOX.out _) ⟨wr.heap.size, 0, none⟩ 1 1 [.slice (some ⟨wo.heap.size + 1, 0, none⟩) n n] rfl rfl (fun j u hu => by rw [WideShapes.add_plain, Nat.zero_add]; exact box_cell wr #[.slice (some ⟨wo.heap.size + 1, 0, none⟩) n n] _ j u (by simpa using hu)) (fun u hu => by simp only [List.mem_cons, List.not_mem_nil, or_false] at hu; rw [hu]; rfl) (by unfold maxLen; omega) (by omega) (by rw [Deep.nblk_alloc]; omega) ?_; intro v' w3 hown' hgrow hnil; have HX3 : Hid (w3.ownsRow w.heap.size 28 1 v' (k + 1) (xs ++ [.slice (some ⟨wo.heap.size + 1, 0, none⟩) n n])) := hown'; have HG3 := mkHid hgrow; clear hown' hgrow hnil)
            | go_in)
          have HN3 : Hid (NOwn w3 w.heap.size (gridK ds f (k + 1)) v') := by
            rw [gridK_succ]
            refine NOwn.push (w := wo) (w1 := wr) (b := wo.heap.size + 1) (cap := n) Q1.out Q2.out Q3.out Q4.out (fun j _ hj => HBO.out.block j hj) (by omega) (by omega) HRE.out ?_ (fun j hj hne => ?_) HBO.out.size
            · rw [HRL.out, gridK_length, ← HXS.out]; exact HX3.out
            · exact (HG3.out.block j (by rw [Deep.nblk_alloc]; omega) hne).trans (Deep.blk_alloc_lt _ _ _ hj)
          have HB3 : Hid (Below w.heap.size w w3) := by
            have hbw := HB.out.trans (HBO.out.mono HB.out.size)
            have hg := HG3.out
            refine ⟨by rw [hg.os]; exact hbw.os, by rw [hg.tape]; exact hbw.tape, by rw [hg.output]; exact hbw.output, Nat.le_trans hbw.size (by have := hg.size; rw [Deep.nblk_alloc] at this; omega), fun j hj => ?_⟩
            exact ((hg.block j (by rw [Deep.nblk_alloc]; omega) (fun e => by have := own_block HX0.out e; omega)).trans (Deep.blk_alloc_lt _ _ _ (by omega))).trans (hbw.block j hj)
          refine ⟨⟨k + 1, by omega, by go_num, HN3.out, HB3.out⟩, by simp [intOf]; omega⟩
    · have hke : k = ds.length := by omega
      have HV : Hid (NOwn wo w.heap.size (gridN ds f) u5) := by have := HO.out; rw [hke] at this; exact this
      clear hke
      go_wp2_with fail
      go_ret
      exact ⟨_, rfl, HV.out, HB.out⟩
end Go.Proofs.Ytpkephkgaflklaa
