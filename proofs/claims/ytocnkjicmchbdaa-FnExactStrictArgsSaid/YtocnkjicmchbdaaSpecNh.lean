/-
  THE MODEL's l9Need AND NeedHolds; nothing that was there is changed.
-/
import Derived.Test.YtocnkjicmchbdaaSpecIn
import Derived.Deep.LoopGhost
namespace Go.Proofs.Ytocnkjicmchbdaa
set_option linter.unusedVariables false
set_option linter.unusedSimpArgs false
open Go.RowKit

open Classical in
/-- it has rows as the arities say -/
noncomputable def fitO (ds : List Df) (need : List (List Bool)) : Bool := decide (FitN ds need)
open Classical in
theorem fitO_yes {ds : List Df} {need : List (List Bool)} (h : FitN ds need) : fitO ds need = true := by unfold fitO; exact decide_eq_true h
open Classical in
theorem fitO_no {ds : List Df} {need : List (List Bool)} (h : ¬ FitN ds need) : fitO ds need = false := by unfold fitO; exact decide_eq_false h
open Classical in
theorem fitO_iff {ds : List Df} {need : List (List Bool)} (h : fitO ds need = true) : FitN ds need := by unfold fitO at h; exact of_decide_eq_true h
theorem holdsO_prog {ds : List Df} {need : List (List Bool)} (h : progB ds = false) : holdsO ds need = false := by unfold holdsO; rw [h]; rfl
open Classical in
theorem holdsO_fit {ds : List Df} {need : List (List Bool)} (h : ¬ FitN ds need) : holdsO ds need = false := by unfold holdsO; rw [decide_eq_false (fun k => h k.1), Bool.and_false]
open Classical in
theorem holdsO_yes {ds : List Df} {need : List (List Bool)} (h : progB ds = true) (k : HoldN ds need) : holdsO ds need = true := by unfold holdsO; rw [h, decide_eq_true k]; rfl
open Classical in
theorem holdsO_no {ds : List Df} {need : List (List Bool)} {i v : Nat} (h1 : i < ds.length) (h2 : i < need.length) (hv : v < need[i].length) (hb : need[i][v] = true) (hn : needB need (v : Int) ds[i].2 = false) : holdsO ds need = false := by
  unfold holdsO
  rw [decide_eq_false, Bool.and_false]
  intro k
  have := k.2 i h1 h2 v hv hb
  rw [hn] at this
  cases this

set_option maxRecDepth 100000 in
set_option maxHeartbeats 800000 in
theorem l9Need_calls (ds : List Df) (need : List (List Bool)) (p q : Value) (w : World) (hp : DIn w ds p) (hn : NIn w need q) :
    Calls Try.prog 71 #[p, q] w fun e w' => e = .returned (.bool (fitO ds need)) ∧ Below w.heap.size w w' := by
  have HP := mkHid hp
  have HN := mkHid hn
  obtain ⟨adp, capp, rfl, hpl, hpm, -⟩ := hp
  obtain ⟨adn, capn, rfl, hnl, hnm, -⟩ := hn
  unfold maxLen at hpm hnm
  by_cases hlen : need.length = ds.length
  case neg =>
    have t1 : ((need.length : Int) != (ds.length : Int)) = true := by simp; omega
    have HV := mkHid (fitO_no (ds := ds) (need := need) fun h => hlen h.1)
    rw [HV.out]
    clear hlen
    go_enter Try.func71, Try.ntmps71
    go_wp2_with fail
    go_ret
    exact ⟨rfl, Below.refl _ _⟩
  have t1 : ((need.length : Int) != (ds.length : Int)) = false := by simp; omega
  have HLE := mkHid hlen
  obtain ⟨r, hr⟩ : ∃ r, r = fitO ds need := ⟨_, rfl⟩
  rw [← hr]
  have HR := mkHid hr
  clear hlen hr
  go_enter Try.func71, Try.ntmps71
  go_wp2_with fail
  go_loopw [5] (fun i wr => ∃ k : Nat, k ≤ ds.length ∧ i = .int .i64 k ∧ (∀ j (h : j < ds.length) (h' : j < need.length), j < k → (need[j].length : Int) = ds[j].1) ∧ ∃ n, wr = w.drewN n) (fun i _ => ds.length - (intOf i).toNat)
  case atStart => exact ⟨0, Nat.zero_le _, rfl, fun j _ _ h => absurd h (by omega), 0, rfl⟩
  case round =>
    obtain ⟨k, hk, rfl, hall, n, rfl⟩ := hrel
    have HA := mkHid hall
    clear hall
    by_cases hlt : k < ds.length
    · have hlt2 : k < need.length := by have := HLE.out; omega
      obtain ⟨bl, off, c, rfl, c0, -⟩ := HP.out.at k hlt
      obtain ⟨nb, noff, rv, rfl, -, n0, hrw⟩ := HN.out.at k hlt2
      obtain ⟨adr, capr, rfl, -, -, -⟩ := hrw
      by_cases hx : (need[k].length : Int) = ds[k].1
      · have t2 : ((need[k].length : Int) != ds[k].1) = false := by simp [hx]
        have HA2 : Hid (∀ j (h : j < ds.length) (h' : j < need.length), j < k + 1 → (need[j].length : Int) = ds[j].1) := by
          intro j h h' hj
          by_cases e : j = k
          · subst e; exact hx
          · exact HA.out j h h' (by omega)
        clear hx
        go_wp2_with fail
        go_quiet (fail)
        go_wp2_with fail
        go_roundw
        case rel => exact ⟨k + 1, by omega, by go_num, HA2.out, _, rfl⟩
        case measure => simp [intOf]; omega
      · have t2 : ((need[k].length : Int) != ds[k].1) = true := by simpa using hx
        have HV : Hid (r = false) := HR.out.trans (fitO_no fun h => hx (h.2 k hlt hlt2))
        clear hx
        go_wp2_with fail
        go_quiet (fail)
        go_wp2_with fail
        go_ret
        exact ⟨ret_bool HV.out.symm, below_drewN (below_drewN (Below.refl _ _) _) _⟩
    · have HV : Hid (r = true) := HR.out.trans (fitO_yes ⟨HLE.out, fun j h h' => HA.out j h h' (by omega)⟩)
      go_wp2_with fail
      go_ret
      exact ⟨ret_bool HV.out.symm, below_drewN (Below.refl _ _) _⟩

/-- a body, and what l9In says of it -/
theorem body_in {ds : List Df} {need : List (List Bool)} {adp : Option Addr} {capp : Nat} {q : Value} {w : World} (hp : DIn w ds (.slice adp ds.length capp)) (hn : NIn w need q) (hpr : progB ds = true) (hz : szL (bodies ds) ≤ 1048576) (i : Nat) (hi : i < ds.length) :
    ∃ bl off adk capk, adp = some ⟨bl, off, none⟩ ∧ w.cell? ⟨bl, off + i * 4, none⟩ = some (.int .i64 ds[i].1) ∧ w.cell? ⟨bl, off + i * 4 + 1, none⟩ = some (.int .i64 ds[i].2.op) ∧ w.cell? ⟨bl, off + i * 4 + 2, none⟩ = some (.int .i64 ds[i].2.num) ∧ w.cell? ⟨bl, off + i * 4 + 3, none⟩ = some (.slice adk ds[i].2.kids.length capk) ∧
      ∀ (W : World) (v : Int), Below w.heap.size w W → Calls Try.prog 53 #[.agg #[.int .i64 ds[i].2.op, .int .i64 ds[i].2.num, .slice adk ds[i].2.kids.length capk], .int .i64 v, q] W fun e w' => e = .returned (.bool (needB need v ds[i].2)) ∧ Below W.heap.size W w' := by
  obtain ⟨bl, off, c, rfl, c0, c1, c2, c3, -, i1, i2, hk⟩ := hp.at i hi
  obtain ⟨adk, capk, rfl, -, -, -⟩ := id hk
  refine ⟨bl, off, adk, capk, rfl, c0, c1, c2, c3, fun W v hW => l9In_calls need v _ (progB_body hpr i hi) ?_ _ _ W (hk.next hW) (hn.next hW) ⟨i1, i2⟩⟩
  have := szT_lt_szL (bodies ds) i (by rw [bodies_length]; exact hi)
  have e : (bodies ds)[i]'(by rw [bodies_length]; exact hi) = ds[i].2 := by simp [bodies]
  rw [e] at this
  omega

set_option maxRecDepth 100000 in
set_option maxHeartbeats 1600000 in
theorem specNeedHolds_calls (ds : List Df) (need : List (List Bool)) (p q : Value) (w : World) (hp : DIn w ds p) (hn : NIn w need q) (hz : szL (bodies ds) ≤ 1048576) :
    Calls Try.prog 25 #[p, q] w fun e w' => e = .returned (.bool (holdsO ds need)) ∧ Below w.heap.size w w' := by
  have HP := mkHid hp
  have HN := mkHid hn
  have HZ := mkHid hz
  obtain ⟨adp, capp, rfl, hpl, hpm, -⟩ := hp
  obtain ⟨adn, capn, rfl, hnl, hnm, -⟩ := hn
  unfold maxLen at hpm hnm
  obtain ⟨r, hr⟩ : ∃ r, r = holdsO ds need := ⟨_, rfl⟩
  rw [← hr]
  have HR := mkHid hr
  clear hr hz
  have HPV := mkHid (specProg_calls ds _ w HP.out)
  cases hpr : progB ds with
  | false =>
    have HV : Hid (r = false) := HR.out.trans (holdsO_prog hpr)
    rw [hpr] at HPV
    clear hpr
    go_enter Try.func25, Try.ntmps25
    go_wp2_with fail
    refine HPV.out.mono ?_
    rintro e w1 ⟨rfl, hb1⟩
    have HB1 := mkHid hb1
    clear hb1
    go_wp2_with fail
    go_ret
    exact ⟨ret_bool HV.out.symm, HB1.out⟩
  | true =>
    have HPR := mkHid hpr
    rw [hpr] at HPV
    clear hpr
    have HNV := mkHid fun W h => l9Need_calls ds need _ _ W (HP.out.next h) (HN.out.next h)
    cases hfi : fitO ds need with
    | false =>
      have HV : Hid (r = false) := HR.out.trans (holdsO_fit fun h => by rw [fitO_yes h] at hfi; cases hfi)
      rw [hfi] at HNV
      clear hfi
      go_enter Try.func25, Try.ntmps25
      go_wp2_with fail
      refine HPV.out.mono ?_
      rintro e w1 ⟨rfl, hb1⟩
      have HB1 := mkHid hb1
      clear hb1
      go_wp2_with fail
      refine (HNV.out _ HB1.out).mono ?_
      rintro e w2 ⟨rfl, hb2⟩
      have HB2 : Hid (Below w.heap.size w w2) := HB1.out.trans (hb2.mono HB1.out.size)
      clear hb2
      go_wp2_with fail
      go_ret
      exact ⟨ret_bool HV.out.symm, HB2.out⟩
    | true =>
      have HF := mkHid (fitO_iff hfi)
      rw [hfi] at HNV
      have HLE := mkHid HF.out.1
      have h6 : ds.length ≤ 6 := progB_len HPR.out
      have HAR := mkHid (progB_ar HPR.out)
      clear hfi
      go_enter Try.func25, Try.ntmps25
      go_wp2_with fail
      refine HPV.out.mono ?_
      rintro e w1 ⟨rfl, hb1⟩
      have HB1 := mkHid hb1
      clear hb1
      go_wp2_with fail
      refine (HNV.out _ HB1.out).mono ?_
      rintro e w2 ⟨rfl, hb2⟩
      have HB2 : Hid (Below w.heap.size w w2) := HB1.out.trans (hb2.mono HB1.out.size)
      clear hb2
      go_wp2_with fail
      go_loopw [5] (fun i wr => ∃ k : Nat, k ≤ ds.length ∧ i = .int .i64 k ∧ (∀ j (h : j < ds.length) (h' : j < need.length), j < k → ∀ (v : Nat) (hv : v < need[j].length), need[j][v] = true → needB need (v : Int) ds[j].2 = true) ∧ Below w.heap.size w wr) (fun i _ => ds.length - (intOf i).toNat)
      case atStart => exact ⟨0, Nat.zero_le _, rfl, fun j _ _ h => absurd h (by omega), HB2.out⟩
      case round =>
        obtain ⟨k, hk, rfl, hall, hb⟩ := hrel
        obtain ⟨wo, rfl⟩ : ∃ wo : World, wo = wr := ⟨_, rfl⟩
        have HA := mkHid hall
        have HB := mkHid hb
        clear hall hb
        by_cases hlt : k < ds.length
        · have hlt2 : k < need.length := by have := HLE.out; omega
          obtain ⟨bl, off, adk, capk, rfl, c0, c1, c2, c3, hc⟩ := body_in HP.out HN.out HPR.out HZ.out k hlt
          obtain ⟨nb, noff, rv, rfl, hnb, n0, hrw⟩ := HN.out.at k hlt2
          obtain ⟨adr, capr, rfl, hrl, hrm, -⟩ := id hrw
          have HRW := mkHid hrw
          have HC := mkHid hc
          have hfk := HF.out.2 k hlt hlt2
          have har := HAR.out _ (List.getElem_mem hlt)
          obtain ⟨d, hd⟩ : ∃ d, d = ds[k] := ⟨_, rfl⟩
          obtain ⟨row, hrow⟩ : ∃ row, row = need[k] := ⟨_, rfl⟩
          rw [← hd] at c0 c1 c2 c3 HC hfk har
          rw [← hrow] at n0 HRW hfk hrl
          have HD := mkHid hd
          have HRO := mkHid hrow
          have C : Hid (∀ W, Below w.heap.size w W → W.cell? ⟨bl, off + k * 4, none⟩ = some (.int .i64 d.1) ∧ W.cell? ⟨bl, off + k * 4 + 1, none⟩ = some (.int .i64 d.2.op) ∧ W.cell? ⟨bl, off + k * 4 + 2, none⟩ = some (.int .i64 d.2.num) ∧ W.cell? ⟨bl, off + k * 4 + 3, none⟩ = some (.slice adk d.2.kids.length capk) ∧ W.cell? ⟨nb, noff + k, none⟩ = some (.slice adr row.length capr)) := fun W h =>
            ⟨(h.cell (cell_lt c0)).trans c0, (h.cell (cell_lt c1)).trans c1, (h.cell (cell_lt c2)).trans c2, (h.cell (cell_lt c3)).trans c3, (h.cell (cell_lt n0)).trans n0⟩
          clear c0 c1 c2 c3 n0 hrw hc hd hrow hnb
          go_wp2_with fail
          go_loopw [6] (fun i wr => ∃ v : Nat, v ≤ row.length ∧ i = .int .i64 v ∧ (∀ (u : Nat) (hu : u < row.length), u < v → row[u] = true → needB need (u : Int) d.2 = true) ∧ Below w.heap.size w wr) (fun i _ => row.length - (intOf i).toNat)
          case atStart => exact ⟨0, Nat.zero_le _, rfl, fun u _ h => absurd h (by omega), HB.out⟩
          case round =>
            obtain ⟨v, hv, rfl, hal2, hb⟩ := hrel
            have HA2 := mkHid hal2
            have HBR := mkHid hb
            obtain ⟨c0, c1, c2, c3, n0⟩ := C.out _ hb
            rw [← hfk] at c0
            clear hal2 hb
            by_cases hvl : v < row.length
            · obtain ⟨rb, roff, rfl, hrb, hr0⟩ := HRW.out.at v hvl
              have r0 := (HBR.out.cell (cell_lt hr0)).trans hr0
              obtain ⟨b, hbe⟩ : ∃ b, b = row[v] := ⟨_, rfl⟩
              rw [← hbe] at r0
              have HBE := mkHid hbe
              have HNX : Hid ((b = true → needB need (v : Int) d.2 = true) → ∀ (u : Nat) (hu : u < row.length), u < v + 1 → row[u] = true → needB need (u : Int) d.2 = true) := by
                intro hbb u hu hlt hru
                by_cases e : u = v
                · subst e; exact hbb (HBE.out.trans hru)
                · exact HA2.out u hu (by omega) hru
              obtain ⟨x, hx⟩ : ∃ x, x = needB need (v : Int) d.2 := ⟨_, rfl⟩
              have HX := mkHid hx
              have HCC := mkHid (HC.out wr (v : Int) HBR.out)
              rw [← hx] at HCC HNX
              clear hbe hr0 hx hrb
              cases b with
              | false =>
                clear c1 c2 c3
                go_wp2_with fail
                go_roundw
                case rel => exact ⟨v + 1, by omega, by go_num, HNX.out (fun h => by cases h), HBR.out⟩
                case measure => simp [intOf]; omega
              | true =>
                go_wp2_with fail
                refine HCC.out.mono ?_
                rintro e w3 ⟨rfl, hb3⟩
                have HB3 : Hid (Below w.heap.size w w3) := HBR.out.trans (hb3.mono HBR.out.size)
                clear hb3 c0 c1 c2 c3 n0 r0
                cases x with
                | true =>
                  go_wp2_with fail
                  go_roundw
                  case rel => exact ⟨v + 1, by omega, by go_num, HNX.out (fun _ => by trivial), HB3.out⟩
                  case measure => simp [intOf]; omega
                | false =>
                  have HV : Hid (r = false) := HR.out.trans (holdsO_no (i := k) (v := v) hlt hlt2 (by rw [← HRO.out]; exact hvl) (by rw [← List.getElem_of_eq HRO.out hvl]; exact HBE.out.symm) (by rw [← HD.out]; exact HX.out.symm))
                  go_wp2_with fail
                  go_ret
                  exact ⟨ret_bool HV.out.symm, HB3.out⟩
            · have hve : v = row.length := by omega
              have HNA : Hid (∀ j (h : j < ds.length) (h' : j < need.length), j < k + 1 → ∀ (v : Nat) (hv : v < need[j].length), need[j][v] = true → needB need (v : Int) ds[j].2 = true) := by
                intro j h h' hj u hu hru
                by_cases e : j = k
                · subst e
                  have := HA2.out u (by rw [HRO.out]; exact hu) (by rw [hve, HRO.out]; exact hu) (by rw [List.getElem_of_eq HRO.out]; exact hru)
                  rw [HD.out] at this
                  exact this
                · exact HA.out j h h' (by omega) u hu hru
              clear hve c1 c2 c3 n0
              go_wp2_with fail
              go_roundw
              case rel => exact ⟨k + 1, by omega, by go_num, HNA.out, HBR.out⟩
              case measure => simp [intOf]; omega
        · have HV : Hid (r = true) := HR.out.trans (holdsO_yes HPR.out ⟨HF.out, fun j h h' => HA.out j h h' (by omega)⟩)
          go_wp2_with fail
          go_ret
          exact ⟨ret_bool HV.out.symm, HB.out⟩
end Go.Proofs.Ytocnkjicmchbdaa
