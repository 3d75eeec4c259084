/-
  THE MODEL's AND THE PROGRAM's ProgramValid: which programs they take for valid; nothing that was there is changed.
-/
import Derived.Test.YtpkephkgaflklaaMgNeedLess4
import Derived.Test.YtpkephkgaflklaaMgNeedLess1
import Derived.Test.YtpkephkgaflklaaProg
import Derived.Deep.RegionHeld3
import Derived.Deep.RegionWith
import Derived.Deep.DeepMust
import Derived.BigRegion
import Derived.Test.YtpkephkgaflklaaMgNeedLess2
namespace Go.Proofs.Ytpkephkgaflklaa
set_option linter.unusedVariables false
set_option linter.unusedSimpArgs false
open Go.RowKit

/-- a valid program -/
def progB (ds : List Df) : Bool := decide (ds.length ≤ 6) && ds.all fun d => validB d.2 d.1 ds.length

theorem progB_long (ds : List Df) (h : 6 < ds.length) : progB ds = false := by unfold progB; rw [decide_eq_false (by omega), Bool.false_and]
theorem progB_bad (ds : List Df) (k : Nat) (hk : k < ds.length) (h : validB ds[k].2 ds[k].1 ds.length = false) : progB ds = false := by
  unfold progB
  rw [Bool.and_eq_false_iff]
  right
  rw [List.all_eq_false]
  exact ⟨ds[k], List.getElem_mem hk, by simp [h]⟩
theorem progB_end (ds : List Df) (h : ds.length ≤ 6) (ha : (ds.take ds.length).all (fun d => validB d.2 d.1 ds.length) = true) : progB ds = true := by
  rw [List.take_length] at ha
  unfold progB
  rw [ha, decide_eq_true h]; rfl
theorem all_take_succ' {α : Type} (p : α → Bool) (l : List α) (i : Nat) (h : i < l.length) : (l.take (i + 1)).all p = ((l.take i).all p && p l[i]) := by
  rw [List.take_succ_eq_append_getElem h, List.all_append]; simp
theorem validB_is (t : Tr) (v d : Int) (h : 0 ≤ v ∧ v ≤ 4 ∧ 0 ≤ d ∧ d ≤ 6) : validB t v d = isB t v d := by
  simp only [validB, isB]
  rw [decide_eq_true h, Bool.true_and]
  congr 1
  rw [decide_eq_decide]
  omega
theorem validB_no (t : Tr) (v d : Int) (h : ¬ (0 ≤ v ∧ v ≤ 4 ∧ 0 ≤ d ∧ d ≤ 6)) : validB t v d = false := by
  simp only [validB]; rw [decide_eq_false h, Bool.false_and]

theorem is_val (b : Bool) (t : Tr) (vars defs : Int) (c : Value) (W : World) (hk : In W t.kids c) (h : isB t vars defs = b) : Calls Try.prog 67 #[.agg #[.int .i64 t.op, .int .i64 t.num, c], .int .i64 vars, .int .i64 defs] W fun e w' => e = .returned (.bool b) ∧ Below W.heap.size W w' := by
  have := l1Is_calls t vars defs c W hk; rwa [h] at this

theorem is_quiet (b : Bool) (t : Tr) (vars defs : Int) (c : Value) (wr : World) (hk : In wr t.kids c) (h : isB t vars defs = b) (dq : Nat) (osq : Array Obj) :
    Calls Try.prog 67 #[.agg #[.int .i64 t.op, .int .i64 t.num, c], .int .i64 vars, .int .i64 defs] (Sort.grow (redrawn wr dq) osq) fun e w'' => e = .returned (.bool b) ∧ ∃ p : Regrown, w'' = Sort.grow (redrawn wr p.d) p.os :=
  quietB (fun W hW => is_val b t vars defs c W (hk.next hW) h) dq osq

set_option maxRecDepth 100000 in
set_option maxHeartbeats 800000 in
theorem specProg_calls (ds : List Df) (c : Value) (w : World) (hk : DIn w ds c) : Calls Try.prog 30 #[c] w fun e w' => e = .returned (.bool (progB ds)) ∧ Below w.heap.size w w' := by
  have HK : Hid (DIn w ds c) := hk
  obtain ⟨ad, cap, rfl, hl, hm, -⟩ := hk
  unfold maxLen at hm
  go_enter Try.func30, Try.ntmps30
  go_wp2_with fail
  go_loopw [3] (fun i wr => ∃ k : Nat, k ≤ ds.length ∧ i = .int .i64 k ∧ (ds.take k).all (fun d => validB d.2 d.1 ds.length || decide (6 < ds.length)) = true ∧ Below w.heap.size w wr) (fun i _ => ds.length - (intOf i).toNat)
  case atStart => exact ⟨0, Nat.zero_le _, rfl, by simp, Below.refl _ _⟩
  case round =>
    obtain ⟨k, hk, rfl, hall, hb⟩ := hrel
    have HA : Hid ((ds.take k).all (fun d => validB d.2 d.1 ds.length || decide (6 < ds.length)) = true) := hall
    have HBW : Hid (Below w.heap.size w wr) := hb
    clear hall
    by_cases hlt : k < ds.length
    · by_cases h6 : (k : Int) ≤ 6
      · obtain ⟨bl, off, r, rfl, c0, c1, c2, c3, -, -, -, hkk⟩ := (HK.out.next hb).at k hlt
        have HKK : Hid (In wr ds[k].2.kids r) := hkk
        clear hkk hb
        have k0 := cell_regrown c0
        have k1 := cell_regrown c1
        have k2 := cell_regrown c2
        have k3 := cell_regrown c3
        by_cases ha0 : ds[k].1 < 0
        · have hd0 : decide (ds[k].1 < 0) = true := by simpa using ha0
          have HV : Hid (progB ds = false) := progB_bad ds k hlt (validB_no _ _ _ (by omega))
          go_wp2_with fail
          refine wp_region_quiet_below (by kernel_rfl) (by kernel_rfl) ?_
          repeat (any_goals (first | go_big_quiet_step (fail) | quiet_step (fail)))
          refine wpQuiet_nil ?_
          intro _ hw'
          obtain ⟨⟨dq, osq⟩, hw''⟩ := hw'
          subst hw''
          clear k0 k1 k2 k3
          go_wp2_with fail
          go_ret
          exact ⟨ret_bool HV.out.symm, HBW.out.trans ((below_regrown _ _ _).mono HBW.out.size)⟩
        · have hd0 : decide (ds[k].1 < 0) = false := by simpa using ha0
          by_cases ha4 : 4 < ds[k].1
          · have hd4 : decide (4 < ds[k].1) = true := by simpa using ha4
            have HV : Hid (progB ds = false) := progB_bad ds k hlt (validB_no _ _ _ (by omega))
            go_wp2_with fail
            refine wp_region_quiet_below (by kernel_rfl) (by kernel_rfl) ?_
            repeat (any_goals (first | go_big_quiet_step (fail) | quiet_step (fail)))
            refine wpQuiet_nil ?_
            intro _ hw'
            obtain ⟨⟨dq, osq⟩, hw''⟩ := hw'
            subst hw''
            clear k0 k1 k2 k3
            go_wp2_with fail
            go_ret
            exact ⟨ret_bool HV.out.symm, HBW.out.trans ((below_regrown _ _ _).mono HBW.out.size)⟩
          · have hd4 : decide (4 < ds[k].1) = false := by simpa using ha4
            cases hib : isB ds[k].2 ds[k].1 ds.length with
            | false =>
              have HC : Hid (∀ (dq : Nat) (osq : Array Obj), Calls Try.prog 67 #[.agg #[.int .i64 ds[k].2.op, .int .i64 ds[k].2.num, r], .int .i64 ds[k].1, .int .i64 (ds.length : Int)] (Sort.grow (redrawn wr dq) osq) fun e w'' => e = .returned (.bool false) ∧ ∃ p : Regrown, w'' = Sort.grow (redrawn wr p.d) p.os) :=
                fun dq osq => is_quiet false ds[k].2 ds[k].1 ds.length r wr HKK.out hib dq osq
              have HV : Hid (progB ds = false) := by
                by_cases hl6 : 6 < ds.length
                · exact progB_long ds hl6
                · exact progB_bad ds k hlt (by rw [validB_is _ _ _ (by omega)]; exact hib)
              go_wp2_with fail
              refine wp_region_quiet_below (by kernel_rfl) (by kernel_rfl) ?_
              repeat (any_goals (first | go_big_quiet_step ((go_at_call 67; go_must (exact HC.out _ _))) | quiet_step ((go_at_call 67; go_must (exact HC.out _ _)))))
              refine wpQuiet_nil ?_
              intro _ hw'
              obtain ⟨⟨dq, osq⟩, hw''⟩ := hw'
              subst hw''
              clear k0 k1 k2 k3
              go_wp2_with fail
              go_ret
              exact ⟨ret_bool HV.out.symm, HBW.out.trans ((below_regrown _ _ _).mono HBW.out.size)⟩
            | true =>
              have HC : Hid (∀ (dq : Nat) (osq : Array Obj), Calls Try.prog 67 #[.agg #[.int .i64 ds[k].2.op, .int .i64 ds[k].2.num, r], .int .i64 ds[k].1, .int .i64 (ds.length : Int)] (Sort.grow (redrawn wr dq) osq) fun e w'' => e = .returned (.bool true) ∧ ∃ p : Regrown, w'' = Sort.grow (redrawn wr p.d) p.os) :=
                fun dq osq => is_quiet true ds[k].2 ds[k].1 ds.length r wr HKK.out hib dq osq
              have HV : Hid ((ds.take (k + 1)).all (fun d => validB d.2 d.1 ds.length || decide (6 < ds.length)) = true) := by
                rw [Hid, all_take_succ' _ _ _ hlt, HA.out, Bool.true_and]
                by_cases hl6 : 6 < ds.length
                · simp [hl6]
                · rw [validB_is _ _ _ (by omega), hib, Bool.true_or]
              go_wp2_with fail
              refine wp_region_quiet_below (by kernel_rfl) (by kernel_rfl) ?_
              repeat (any_goals (first | go_big_quiet_step ((go_at_call 67; go_must (exact HC.out _ _))) | quiet_step ((go_at_call 67; go_must (exact HC.out _ _)))))
              refine wpQuiet_nil ?_
              intro _ hw'
              obtain ⟨⟨dq, osq⟩, hw''⟩ := hw'
              subst hw''
              clear k0 k1 k2 k3
              have HB2 : Hid (Below w.heap.size w (Sort.grow (redrawn wr dq) osq)) := HBW.out.trans ((below_regrown _ _ _).mono HBW.out.size)
              clear hib
              go_wp2_with fail
              go_roundw
              case rel => exact ⟨k + 1, by omega, by go_num, HV.out, HB2.out⟩
              case measure => simp [intOf]; omega
      · have HV : Hid (progB ds = decide (ds.length ≤ 6)) := by
          rw [Hid, progB_long ds (by omega), decide_eq_false (by omega)]
        have hd6 : decide ((k : Int) ≤ 6) = false := by simpa using h6
        clear hb
        go_wp2_with fail
        go_ret
        exact ⟨ret_bool (by rw [HV.out, decide_eq_decide]; omega), HBW.out⟩
    · have HV : Hid (progB ds = decide (ds.length ≤ 6)) := by
        have hke : ds.length = k := by omega
        by_cases hl6 : 6 < ds.length
        · rw [Hid, progB_long ds hl6, decide_eq_false (by omega)]
        · rw [Hid, progB_end ds (by omega) _, decide_eq_true (by omega)]
          have h2 := HA.out
          rw [← hke] at h2
          simpa [hl6] using h2
      clear hb
      go_wp2_with fail
      go_ret
      exact ⟨ret_bool (by rw [HV.out, decide_eq_decide]; omega), HBW.out⟩

set_option maxRecDepth 100000 in
set_option maxHeartbeats 1600000 in
theorem implProg_calls (ds : List Df) (c : Value) (w : World) (hk : DIn w ds c) : Calls Try.prog 10 #[c] w fun e w' => e = .returned (.bool (progB ds)) ∧ Below w.heap.size w w' := by
  have HK : Hid (DIn w ds c) := hk
  obtain ⟨ad, cap, rfl, hl, hm, -⟩ := hk
  unfold maxLen at hm
  by_cases h6 : 6 < ds.length
  · have HV : Hid (progB ds = false) := progB_long ds h6
    go_enter Try.func10, Try.ntmps10
    go_wp2_with fail
    go_ret
    exact ⟨ret_bool HV.out.symm, Below.refl _ _⟩
  have h6' : ¬ (6 < (ds.length : Int)) := by omega
  go_enter Try.func10, Try.ntmps10
  go_wp2_with fail
  go_loopw [10] (fun i wr => ∃ k : Nat, k ≤ ds.length ∧ i = .int .i64 k ∧ (ds.take k).all (fun d => validB d.2 d.1 ds.length) = true ∧ Below w.heap.size w wr) (fun i _ => ds.length - (intOf i).toNat)
  case atStart => exact ⟨0, Nat.zero_le _, rfl, by simp, Below.refl _ _⟩
  case round =>
    obtain ⟨k, hk, rfl, hall, hb⟩ := hrel
    have HA : Hid ((ds.take k).all (fun d => validB d.2 d.1 ds.length) = true) := hall
    have HBW : Hid (Below w.heap.size w wr) := hb
    clear hall
    by_cases hlt : k < ds.length
    · obtain ⟨bl, off, r, rfl, c0, c1, c2, c3, -, -, -, hkk⟩ := (HK.out.next hb).at k hlt
      obtain ⟨ad2, cap2, rfl, -, -, -⟩ := id hkk
      have HKK : Hid (In wr ds[k].2.kids (.slice ad2 ds[k].2.kids.length cap2)) := hkk
      clear hkk hb
      go_wp2_with fail
      refine (implValid_calls ds[k].2 _ _ (.slice ad2 ds[k].2.kids.length cap2) _ ?_).mono ?_
      · exact HKK.out.next (box_below _ _)
      rintro e w1 ⟨rfl, hb1⟩
      have HB1 : Hid (Below w.heap.size w w1) := HBW.out.trans (((box_below _ _).trans (hb1.mono (by rw [Deep.nblk_alloc]; omega))).mono HBW.out.size)
      clear hb1
      cases hib : validB ds[k].2 ds[k].1 ds.length with
      | false =>
        have HV : Hid (progB ds = false) := progB_bad ds k hlt hib
        clear hib
        go_wp2_with fail
        go_ret
        exact ⟨ret_bool HV.out.symm, HB1.out⟩
      | true =>
        have HV : Hid ((ds.take (k + 1)).all (fun d => validB d.2 d.1 ds.length) = true) := by
          rw [Hid, all_take_succ' _ _ _ hlt, HA.out, hib]; rfl
        clear hib
        go_wp2_with fail
        go_roundw
        case rel => exact ⟨k + 1, by omega, by go_num, HV.out, HB1.out⟩
        case measure => simp [intOf]; omega
    · have HV : Hid (progB ds = true) := by
        have hke : ds.length = k := by omega
        have h2 := HA.out
        rw [← hke] at h2
        exact progB_end ds (by omega) h2
      clear hb
      go_wp2_with fail
      go_ret
      exact ⟨ret_bool HV.out.symm, HBW.out⟩
end Go.Proofs.Ytpkephkgaflklaa
/-
  THE MODEL's l1Program.
-/
namespace Go.Proofs.Ytpkephkgaflklaa
set_option linter.unusedVariables false
set_option linter.unusedSimpArgs false
open Go.RowKit

/-- a program's text, from a place on -/
def progT : Nat → List Df → List UInt8
  | _, [] => []
  | i, d :: ds => [byt (65 + i)] ++ decT d.1.toNat ++ [61] ++ textT d.2 ++ [10] ++ progT (i + 1) ds
def decB (n : Nat) : ByteArray := ⟨(decT n).toArray⟩
theorem app_mk (a b : List UInt8) : (⟨a.toArray⟩ : ByteArray) ++ ⟨b.toArray⟩ = ⟨(a ++ b).toArray⟩ := by rw [ByteArray.mk_append_mk]; first | done | simp

set_option maxRecDepth 100000 in
set_option maxHeartbeats 3200000 in
theorem l1Program_calls (ds : List Df) (v : Value) (w : World) (hk : DIn w ds v) (hp : progB ds = true) :
    Calls Try.prog 92 #[v] w fun e w' => e = .returned (.string ⟨(progT 0 ds).toArray⟩) ∧ Below w.heap.size w w' := by
  have hp6 : ds.length ≤ 6 := by by_cases h : ds.length ≤ 6; exact h; rw [progB_long ds (by omega)] at hp; exact absurd hp (by decide)
  have HVD : Hid (∀ d ∈ ds, validB d.2 d.1 ds.length = true) := by
    unfold progB at hp
    rw [Bool.and_eq_true, List.all_eq_true] at hp
    exact hp.2
  have HK := mkHid hk
  obtain ⟨ad, cap, rfl, hlc, hcm, -⟩ := id hk
  unfold maxLen at hcm
  obtain ⟨r, hr⟩ : ∃ r, r = progT 0 ds := ⟨_, rfl⟩
  rw [← hr]
  have HR := mkHid hr
  obtain ⟨n, hn⟩ : ∃ n, n = ds.length := ⟨_, rfl⟩
  have HN := mkHid hn
  rw [← hn] at HK hlc hp6 HVD ⊢
  clear hk hr hp hn
  go_enter Try.func92, Try.ntmps92
  go_wp2_with fail
  go_loopw [3, 4] (fun sv iv wr => ∃ (i : Nat) (S : ByteArray) (L : List UInt8), i ≤ n ∧ sv = .string S ∧ iv = .int .i64 (i : Int) ∧ S.size ≤ i * 300 ∧ Hid (S = ⟨L.toArray⟩) ∧ Hid (r = L ++ progT i (ds.drop i)) ∧ Hid (Below w.heap.size w wr)) (fun _ iv _ => n - (intOf iv).toNat)
  case atStart => exact ⟨0, ⟨#[]⟩, [], Nat.zero_le _, rfl, rfl, Nat.zero_le _, rfl, HR.out, Below.refl _ _⟩
  case round =>
    obtain ⟨i, S, L, hi, rfl, rfl, hsz, HS, HRR, HB⟩ := hrel
    by_cases hlt : i < n
    · have hid : i < ds.length := by rw [← HN.out]; exact hlt
      obtain ⟨bl, off, c, rfl, k0, k1, k2, k3, hI0, hI1, hI2, hIK⟩ := (DefsOn.next HK.out HB.out).at i hid
      have hvd : validB ds[i].2 ds[i].1 n = true := HVD.out _ (List.getElem_mem hid)
      have hsm : szT ds[i].2 ≤ 60 ∧ 0 ≤ ds[i].1 ∧ ds[i].1 ≤ 4 := by
        unfold validB at hvd
        simp only [Bool.and_eq_true, decide_eq_true_eq] at hvd
        omega
      have hsh := ShE.of_valid hvd
      obtain ⟨A, hA⟩ : ∃ A : Nat, ds[i].1 = (A : Int) := ⟨ds[i].1.toNat, by omega⟩
      obtain ⟨D, hD⟩ : ∃ D, D = decB A := ⟨_, rfl⟩
      obtain ⟨T, hT⟩ : ∃ T, T = textB ds[i].2 := ⟨_, rfl⟩
      obtain ⟨B1, hB1⟩ : ∃ B1 : ByteArray, B1 = ⟨#[byt (65 + i)]⟩ := ⟨_, rfl⟩
      have hA4 : A ≤ 4 := by omega
      have hDs : D.size ≤ 3 := by rw [hD]; show (decT A).toArray.size ≤ 3; rw [List.size_toArray]; exact decT_len A (by omega)
      have hTs : T.size ≤ 250 := by rw [hT, textB_size]; have := textT_len _ _ (Nat.le_refl _) hsh; omega
      have hBs : B1.size = 1 := by rw [hB1]; rfl
      have H1 : Hid (∀ W, Below wr.heap.size wr W → Calls Try.prog 105 #[.int .u8 65, .int .i64 (i : Int)] W fun e w' => e = .returned (.string B1) ∧ Below W.heap.size W w') := fun W _ => by rw [hB1]; exact l1Letter_calls 65 i W (by omega) (by decide)
      have H2 : Hid (∀ W, Below wr.heap.size wr W → Calls Try.prog 106 #[.int .i64 (A : Int)] W fun e w' => e = .returned (.string D) ∧ Below W.heap.size W w') := fun W _ => by rw [hD]; exact l16Dec_calls A W (by omega)
      have H3 : Hid (∀ W, Below wr.heap.size wr W → Calls Try.prog 104 #[.agg #[.int .i64 ds[i].2.op, .int .i64 ds[i].2.num, c]] W fun e w' => e = .returned (.string T) ∧ Below W.heap.size W w') := fun W h => by rw [hT]; exact l1Text_calls _ hsh (by omega) c W (hIK.next h) ⟨hI1, hI2⟩
      have HSS : Hid (S ++ B1 ++ D ++ (⟨#[61]⟩ : ByteArray) ++ T ++ (⟨#[10]⟩ : ByteArray) = ⟨(L ++ ([byt (65 + i)] ++ decT A ++ [61] ++ textT ds[i].2 ++ [10])).toArray⟩) := by
        have e1 : B1 = ⟨[byt (65 + i)].toArray⟩ := by rw [hB1]
        have e2 : (⟨#[61]⟩ : ByteArray) = ⟨[(61 : UInt8)].toArray⟩ := rfl
        have e3 : (⟨#[10]⟩ : ByteArray) = ⟨[(10 : UInt8)].toArray⟩ := rfl
        rw [Hid, HS.out, e1, hD, hT, decB, textB, e2, e3, app_mk, app_mk, app_mk, app_mk, app_mk]
        simp only [List.append_assoc]
      have HV : Hid (r = (L ++ ([byt (65 + i)] ++ decT A ++ [61] ++ textT ds[i].2 ++ [10])) ++ progT (i + 1) (ds.drop (i + 1))) := by
        rw [Hid, HRR.out, List.drop_eq_getElem_cons hid, progT, hA, Int.toNat_natCast]
        simp only [List.append_assoc]
      obtain ⟨adc, capc, rfl, -, -, -⟩ := hIK
      obtain ⟨o, ho⟩ : ∃ o, o = ds[i].2.op := ⟨_, rfl⟩
      obtain ⟨m, hm⟩ : ∃ m, m = ds[i].2.num := ⟨_, rfl⟩
      obtain ⟨z, hz⟩ : ∃ z, z = ds[i].2.kids.length := ⟨_, rfl⟩
      rw [← ho, ← hm, ← hz] at H3
      rw [hA] at k0
      rw [← ho] at k1
      rw [← hm] at k2
      rw [← hz] at k3
      have r0 := cell_regrown k0
      have r1 := cell_regrown k1
      have r2 := cell_regrown k2
      have r3 := cell_regrown k3
      obtain ⟨LL, hLL⟩ : ∃ LL, LL = L ++ ([byt (65 + i)] ++ decT A ++ [61] ++ textT ds[i].2 ++ [10]) := ⟨_, rfl⟩
      rw [← hLL] at HSS HV
      clear k0 k1 k2 k3 hI0 hI1 hI2 hvd hsm hsh hA hD hT hB1 ho hm hz hLL HRR HS
      go_wp2_with fail
      refine wp_region_quiet_below (by kernel_rfl) (by kernel_rfl) ?_
      iterate 2 (any_goals (first | go_big_quiet_step (fail) | quiet_step (fail)))
      any_goals (first | go_big_quiet_step (exact quietB (fun W h => H1.out W h) _ _) | quiet_step (exact quietB (fun W h => H1.out W h) _ _))
      iterate 6 (any_goals (first | go_big_quiet_step (fail) | quiet_step (fail)))
      any_goals (first | go_big_quiet_step (exact quietB (fun W h => H2.out W h) _ _) | quiet_step (exact quietB (fun W h => H2.out W h) _ _))
      iterate 7 (any_goals (first | go_big_quiet_step (fail) | quiet_step (fail)))
      any_goals (first | go_big_quiet_step (exact quietB (fun W h => H3.out W h) _ _) | quiet_step (exact quietB (fun W h => H3.out W h) _ _))
      iterate 3 (any_goals (first | go_big_quiet_step (fail) | quiet_step (fail)))
      refine wpQuiet_nil ?_
      intro _ hw'
      obtain ⟨⟨dq, osq⟩, hw''⟩ := hw'
      subst hw''
      clear r0 r1 r2 r3
      go_wp2_with fail
      have e61 : (⟨#[61]⟩ : ByteArray).size = 1 := rfl
      have e10 : (⟨#[10]⟩ : ByteArray).size = 1 := rfl
      exact ⟨⟨i + 1, _, LL, hlt, rfl, by simp, by simp only [ByteArray.size_append]; omega, HSS.out, HV.out, HB.out.trans ((below_regrown _ _ _).mono HB.out.size)⟩, by simp only [intOf]; omega⟩
    · have hin : i = n := by omega
      have HV : Hid (r = L) := by
        have e : ds.drop i = [] := List.drop_eq_nil_of_le (by rw [hin, HN.out]; exact Nat.le_refl _)
        rw [Hid, HRR.out, e]; simp [progT]
      subst hin
      go_wp2_with fail
      go_ret
      exact ⟨ret_str (by rw [HV.out]; exact HS.out), HB.out⟩
end Go.Proofs.Ytpkephkgaflklaa
/-
  THE MODEL's ParseProgram.
-/
namespace Go.Proofs.Ytpkephkgaflklaa
set_option linter.unusedVariables false
set_option linter.unusedSimpArgs false
open Go.RowKit

/-- a program's line -/
def lineT (l : ByteArray) : Option Df := if 4 ≤ l.size ∧ 48 ≤ bN l 1 ∧ bN l 1 ≤ 57 ∧ bN l 2 = 61 ∧ (parseE (l.extract 3 l.size)).2 = true then some (((bN l 1 - 48 : Nat) : Int), (parseE (l.extract 3 l.size)).1) else none
def linesT : List ByteArray → Option (List Df)
  | [] => some []
  | l :: ls => (lineT l).bind fun d => (linesT ls).map (d :: ·)
/-- the lines that count -/
def linesOf (s : ByteArray) : List ByteArray := ((cutT s 10 (s.size + 1) 0 0).take ((cutT s 10 (s.size + 1) 0 0).length - 1)).take 7
def parseP (s : ByteArray) : Option (List Df) := (linesT (linesOf s)).bind fun ds => if progB ds = true ∧ (⟨(progT 0 ds).toArray⟩ : ByteArray) = s then some ds else none
/-- functions in a row of one's own, their bodies elsewhere -/
def OwnDf (w : World) (lo : Nat) (ds : List Df) (v : Value) : Prop :=
  ∃ xs, w.ownsRow lo 33 4 v ds.length xs ∧ ∀ j (hj : j < ds.length), ∃ a b c e, xs[j * 4]? = some a ∧ xs[j * 4 + 1]? = some b ∧ xs[j * 4 + 2]? = some c ∧ xs[j * 4 + 3]? = some e ∧ DfOn w (fun k => PN lo w k ∧ some k ≠ v.ownBlock) ds[j] a b c e
theorem DfOn.mono {w w' : World} {S S' : Nat → Prop} {d : Df} {a b c e : Value} (h : DfOn w S d a b c e) (hS : ∀ k, S k → S' k) (hw : ∀ k, S k → w'.heap[k]? = w.heap[k]?) : DfOn w' S' d a b c e :=
  ⟨h.1, h.2.1, h.2.2.mono hS hw⟩
theorem OwnDf.next {w w' : World} {lo : Nat} {ds : List Df} {v : Value} (h : OwnDf w lo ds v) (hb : Below w.heap.size w w') : OwnDf w' lo ds v := by
  obtain ⟨xs, h1, h2⟩ := h
  refine ⟨xs, own_keep h1 fun k _ hk => hb.block k hk, fun j hj => ?_⟩
  obtain ⟨a, b, c, e, e1, e2, e3, e4, e5⟩ := h2 j hj
  exact ⟨a, b, c, e, e1, e2, e3, e4, e5.mono (fun k hk => ⟨hk.1.go (Nat.le_refl _) (hb.block k hk.1.2.1), hk.2⟩) fun k hk => hb.block k hk.1.2.1⟩
theorem OwnDf.step {w w' : World} {lo : Nat} {ds : List Df} {v v' : Value} {d : Df} {a b c e : Value} (xs : List Value) (hx : w.ownsRow lo 33 4 v ds.length xs) (hlo : lo ≤ w.heap.size)
    (ht : ∀ j (hj : j < ds.length), ∃ a b c e, xs[j * 4]? = some a ∧ xs[j * 4 + 1]? = some b ∧ xs[j * 4 + 2]? = some c ∧ xs[j * 4 + 3]? = some e ∧ DfOn w (fun k => PN lo w k ∧ some k ≠ v.ownBlock) ds[j] a b c e)
    (hn : DfOn w (fun k => PN lo w k ∧ some k ≠ v.ownBlock) d a b c e)
    (hown : w'.ownsRow lo 33 4 v' (ds.length + 1) (xs ++ [a, b, c, e])) (hg : w.grownBy w' v.ownBlock) (hw : v'.ownBlock = v.ownBlock ∨ ∃ g, v'.ownBlock = some g ∧ w.heap.size ≤ g) : OwnDf w' lo (ds ++ [d]) v' := by
  have hlen := hx.1
  have keep : ∀ (s : Df) (x y z u : Value), DfOn w (fun k => PN lo w k ∧ some k ≠ v.ownBlock) s x y z u → DfOn w' (fun k => PN lo w' k ∧ some k ≠ v'.ownBlock) s x y z u := by
    intro s x y z u hs
    refine hs.mono (fun k hk => ⟨hk.1.go (Nat.le_refl _) (hg.block k hk.1.2.1 hk.2), ?_⟩) (fun k hk => hg.block k hk.1.2.1 hk.2)
    rcases hw with hw | ⟨g, hw, hge⟩
    · rw [hw]; exact hk.2
    · rw [hw]; intro e; simp only [Option.some.injEq] at e; have := hk.1.2.1; omega
  refine ⟨xs ++ [a, b, c, e], by simpa using hown, fun j hj => ?_⟩
  by_cases hjl : j < ds.length
  · obtain ⟨x, y, z, u, e1, e2, e3, e4, e5⟩ := ht j hjl
    have l1 : j * 4 + 3 < xs.length := by omega
    refine ⟨x, y, z, u, ?_, ?_, ?_, ?_, ?_⟩
    · rw [List.getElem?_append_left (by omega)]; exact e1
    · rw [List.getElem?_append_left (by omega)]; exact e2
    · rw [List.getElem?_append_left (by omega)]; exact e3
    · rw [List.getElem?_append_left (by omega)]; exact e4
    · rw [List.getElem_append_left hjl]; exact keep _ _ _ _ _ e5
  · have hj' : j = ds.length := by simp at hj; omega
    subst hj'
    refine ⟨a, b, c, e, ?_, ?_, ?_, ?_, ?_⟩
    · rw [List.getElem?_append_right (by omega)]; simp [hlen]
    · rw [List.getElem?_append_right (by omega)]; simp [hlen]
    · rw [List.getElem?_append_right (by omega)]; simp [hlen]
    · rw [List.getElem?_append_right (by omega)]; simp [hlen]
    · simpa using keep _ _ _ _ _ hn
theorem OwnDf.defs {w : World} {lo : Nat} {ds : List Df} {v : Value} (h : OwnDf w lo ds v) : DefsOn w (PN lo w) ds v := by
  obtain ⟨xs, h1, h2⟩ := h
  rcases h1.2 with ⟨rfl, h0⟩ | ⟨g, cap, cur, rfl, hg, hh, hn, hc, hs, htk⟩
  · obtain rfl : ds = [] := List.eq_nil_of_length_eq_zero h0
    exact ⟨none, 0, rfl, Nat.le_refl _, by simp [maxLen], Or.inl rfl⟩
  · refine ⟨_, cap, rfl, hn, hc, Or.inr ⟨g, 0, rfl, ⟨hg, (Array.getElem?_eq_some_iff.1 hh).1, _, _, hh⟩, fun i hi => ?_⟩⟩
    obtain ⟨a, b, c, e, e1, e2, e3, e4, e5⟩ := h2 i hi
    refine ⟨a, b, c, e, ?_, ?_, ?_, ?_, e5.mono (fun k hk => hk.1) (fun _ _ => rfl)⟩
    · rw [Nat.zero_add, h1.cellAt (i * 4) (by omega)]; exact e1
    · rw [Nat.zero_add, h1.cellAt (i * 4 + 1) (by omega)]; exact e2
    · rw [Nat.zero_add, h1.cellAt (i * 4 + 2) (by omega)]; exact e3
    · rw [Nat.zero_add, h1.cellAt (i * 4 + 3) (by omega)]; exact e4
theorem infoD4 : ∃ i z, Try.prog.info? 33 = some i ∧ i.zero = some z ∧ i.size = 4 ∧ i.bytes = 48 ∧ z.cells.size = 4 := by
  obtain ⟨i, hi, hzz⟩ := Option.map_eq_some_iff.1 infoD
  simp only [Prod.mk.injEq] at hzz
  obtain ⟨hz, hs, hb⟩ := hzz
  exact ⟨i, _, hi, hz, hs, hb, rfl⟩
theorem cutT_small (s : ByteArray) (c : Nat) : ∀ k i f, ∀ x ∈ cutT s c k i f, x.size ≤ s.size
  | 0, _, _ => by simp [cutT]
  | k + 1, i, f => by
    intro x hx
    unfold cutT at hx
    split at hx
    · rcases List.mem_cons.1 hx with rfl | h
      · rw [ByteArray.size_extract]; omega
      · exact cutT_small s c k _ _ x h
    · exact cutT_small s c k _ _ x hx
theorem cutT_pos (s : ByteArray) (c : Nat) : ∀ k i f, i + k = s.size → 1 ≤ (cutT s c (k + 1) i f).length
  | 0, i, f, h => by unfold cutT; rw [if_pos (Or.inl (by omega))]; simp
  | k + 1, i, f, h => by
    unfold cutT
    split
    · simp
    · exact cutT_pos s c k (i + 1) f (by omega)
end Go.Proofs.Ytpkephkgaflklaa
/-
  THE MODEL's ParseProgram, THE WALK.
-/
namespace Go.Proofs.Ytpkephkgaflklaa
set_option linter.unusedVariables false
set_option linter.unusedSimpArgs false
open Go.RowKit

def PpRes (r : Option (List Df)) (w : World) (e : Ending) (w' : World) : Prop := ∃ v, e = .returned (.tuple #[v, .bool r.isSome]) ∧ DefsOn w' (PN w.heap.size w') (r.getD []) v ∧ Below w.heap.size w w'
theorem PpRes.none {r : Option (List Df)} {w w' : World} {ad : Option Addr} {cap : Nat} (h : r = Option.none) (hc : cap ≤ maxLen) (hb : Below w.heap.size w w') : PpRes r w (.returned (.tuple #[.slice ad 0 cap, .bool false])) w' := by
  subst h
  exact ⟨_, rfl, ⟨ad, cap, rfl, Nat.zero_le _, hc, Or.inl rfl⟩, hb⟩

/-- what the loop keeps -/
structure PqR (w w1 wr : World) (ds : List Df) (ov : Value) : Prop where
  own : OwnDf wr w.heap.size ds ov
  blk : ∀ g, ov.ownBlock = some g → g = w.heap.size + 1 ∨ w1.heap.size ≤ g
  low : Below w.heap.size w wr
  mid : ∀ k, w.heap.size + 2 ≤ k → k < w1.heap.size → wr.heap[k]? = w1.heap[k]?
  size : w1.heap.size ≤ wr.heap.size

set_option maxRecDepth 100000 in
set_option maxHeartbeats 3200000 in
theorem specParseProgram_calls (s : ByteArray) (w : World) (hs : s.size ≤ 1099511627775) :
    Calls Try.prog 60 #[.string s] w (PpRes (parseP s) w) := by
  obtain ⟨r, hr⟩ : ∃ r, r = parseP s := ⟨_, rfl⟩
  rw [← hr]
  have HR := mkHid hr
  have HSZ : Hid (∀ x ∈ cutT s 10 (s.size + 1) 0 0, x.size ≤ 1099511627775) := fun x hx => Nat.le_trans (cutT_small s 10 _ _ _ x hx) hs
  have hcl := cutT_len s 10 (s.size + 1) 0 0
  have hcp := cutT_pos s 10 s.size 0 0 (by omega)
  have HCUT := mkHid fun W => l16Cut_calls s 10 W (by decide) (by omega)
  unfold parseP linesOf at HR
  obtain ⟨ls, hls⟩ : ∃ ls, ls = cutT s 10 (s.size + 1) 0 0 := ⟨_, rfl⟩
  rw [← hls] at HSZ hcl hcp HCUT HR
  obtain ⟨nl, hnl⟩ : ∃ nl, nl = ls.length := ⟨_, rfl⟩
  have HNL := mkHid hnl
  rw [← hnl] at hcl hcp HR
  obtain ⟨L0, hL0⟩ : ∃ L0, L0 = (ls.take (nl - 1)).take 7 := ⟨_, rfl⟩
  rw [← hL0] at HR
  have HL0 := mkHid hL0
  obtain ⟨iE, zE, hiE, hzE, hsE, hbE, hcE⟩ := infoD4
  have HE : Hid (Try.prog.info? 33 = some iE ∧ iE.zero = some zE ∧ iE.size = 4 ∧ iE.bytes = 48 ∧ zE.cells.size = 4) := ⟨hiE, hzE, hsE, hbE, hcE⟩
  clear hr hls hnl hL0 hiE hzE hsE hbE hcE
  go_enter Try.func60, Try.ntmps60
  go_wp2_with fail
  refine (HCUT.out _).mono ?_
  rintro e w1 ⟨lv, rfl, hlv, hb1⟩
  have hs2 : ((w.alloc (.cells #[] 33)).alloc (.cells #[] 33)).heap.size = w.heap.size + 2 := by rw [Deep.nblk_alloc, Deep.nblk_alloc]
  have HB1 := mkHid hb1
  rw [hs2] at hb1 hlv
  have hsw := hb1.size
  rw [hs2] at hsw
  have HBW : Hid (Below w.heap.size w w1) := ((box_below _ _).trans ((box_below _ _).mono (by rw [Deep.nblk_alloc]; omega))).trans (hb1.mono (by omega))
  have HD0 : Hid (w1.heap[w.heap.size + 1]? = some (.cells #[] 33)) := (hb1.block _ (by omega)).trans (by have h := Deep.blk_alloc_new (w.alloc (.cells #[] 33)) (.cells #[] 33); rwa [Deep.nblk_alloc] at h)
  rcases id hlv.2 with ⟨rfl, h0⟩ | ⟨g, cap, cur, rfl, hg, hh, hn, hc, -, -⟩
  · rw [← HNL.out] at h0; omega
  have hgw : g < w1.heap.size := (Array.getElem?_eq_some_iff.1 hh).1
  have HCL : Hid (∀ i (hi : i < ls.length), w1.cell? ⟨g, i, none⟩ = some (.string ls[i])) := fun i hi => by
    rw [World.ownsRow.cellAt hlv i (by rw [Nat.mul_one]; exact hi), List.getElem?_map, List.getElem?_eq_getElem hi]; rfl
  rw [← HNL.out] at hn ⊢
  obtain ⟨n0, hn0⟩ : ∃ n0, n0 = L0.length := ⟨_, rfl⟩
  have hn1 : n0 = min 7 (nl - 1) := by rw [hn0, HL0.out, List.length_take, List.length_take, ← HNL.out]; omega
  have HN0 := mkHid hn0
  have HLI : Hid (∀ i (hi : i < L0.length) (hi' : i < ls.length), L0[i] = ls[i]) := fun i hi hi' => by
    have h : L0[i]? = ls[i]? := by
      have h2 := hi
      rw [HL0.out, List.length_take, List.length_take] at h2
      rw [HL0.out, List.getElem?_take_of_lt (by omega), List.getElem?_take_of_lt (by omega)]
    rw [List.getElem?_eq_getElem hi, List.getElem?_eq_getElem hi'] at h
    exact Option.some.inj h
  unfold maxLen at hc
  clear hlv hb1 hs2 hh hn0
  go_wp2_with fail
  go_loopw [5, 7] (fun ov iv wr => ∃ (i : Nat) (ds : List Df), i ≤ n0 ∧ iv = .int .i64 (i : Int) ∧ Hid (PqR w w1 wr ds ov) ∧ Hid (ds.length = i) ∧ Hid (linesT L0 = (linesT (L0.drop i)).map (ds ++ ·))) (fun _ iv _ => n0 - (intOf iv).toNat)
  case atStart =>
    refine ⟨0, [], Nat.zero_le _, rfl, ⟨⟨[], ⟨rfl, Or.inr ⟨_, 0, #[], rfl, by omega, HD0.out, Nat.le_refl _, by unfold maxLen; omega, rfl, rfl⟩⟩, fun j hj => absurd hj (by simp)⟩, fun b hb => Or.inl ?_, HBW.out, fun _ _ _ => rfl, Nat.le_refl _⟩, rfl, ?_⟩
    · simp only [Value.ownBlock, Option.some.injEq] at hb; omega
    · rw [Hid, List.drop_zero]; cases linesT L0 <;> simp
  case round =>
    obtain ⟨i, ds, hi, rfl, HP, HDL, HLT⟩ := hrel
    by_cases hlt : i < n0
    · have hi1 : (i : Int) < (nl : Int) - 1 := by omega
      have hi2 : (i : Int) ≤ 6 := by omega
      have hil : i < L0.length := by rw [← HN0.out]; exact hlt
      have hil2 : i < ls.length := by rw [← HNL.out]; omega
      obtain ⟨l, hl⟩ : ∃ l, l = ls[i] := ⟨_, rfl⟩
      have hlz : l.size ≤ 1099511627775 := by rw [hl]; exact HSZ.out _ (List.getElem_mem hil2)
      have c0 : wr.cell? ⟨g, i, none⟩ = some (.string l) := by
        rw [World.cell?_of_block (w := w1) (HP.out.mid g hg hgw), hl]; exact HCL.out i hil2
      have HDR : Hid (L0.drop i = l :: L0.drop (i + 1)) := by rw [Hid, List.drop_eq_getElem_cons hil, HLI.out i hil hil2, hl]
      have HRN : Hid (lineT l = none → r = none) := fun h => by
        rw [HR.out, HLT.out, HDR.out, linesT, h]; rfl
      have HRS : Hid (∀ d, lineT l = some d → linesT L0 = (linesT (L0.drop (i + 1))).map ((ds ++ [d]) ++ ·)) := fun d h => by
        rw [HLT.out, HDR.out, linesT, h]
        cases linesT (L0.drop (i + 1)) <;> simp
      clear hl
      by_cases t4 : 4 ≤ l.size
      case neg =>
        have HV : Hid (r = none) := HRN.out (by unfold lineT; rw [if_neg (fun h => t4 h.1)])
        go_wp2_with fail
        go_ret2
        exact PpRes.none HV.out (by simp [maxLen]) HP.out.low
      have h1 : 1 < l.size := by omega
      have h2 : 2 < l.size := by omega
      have t4' : ¬ (l.size : Int) < 4 := by omega
      have hb1 := bN_at h1
      have hb2 := bN_at h2
      obtain ⟨b1, hB1⟩ : ∃ b1, b1 = bN l 1 := ⟨_, rfl⟩
      obtain ⟨b2, hB2⟩ : ∃ b2, b2 = bN l 2 := ⟨_, rfl⟩
      rw [← hB1] at hb1
      rw [← hB2] at hb2
      have HBB := mkHid (And.intro hB1 hB2)
      clear hB1 hB2
      by_cases t48 : 48 ≤ b1
      case neg =>
        have HV : Hid (r = none) := HRN.out (by unfold lineT; rw [if_neg (fun h => t48 (by rw [HBB.out.1]; exact h.2.1))])
        go_wp2_with fail
        go_ret2
        exact PpRes.none HV.out (by simp [maxLen]) HP.out.low
      by_cases t57 : b1 ≤ 57
      case neg =>
        have HV : Hid (r = none) := HRN.out (by unfold lineT; rw [if_neg (fun h => t57 (by rw [HBB.out.1]; exact h.2.2.1))])
        go_wp2_with fail
        go_ret2
        exact PpRes.none HV.out (by simp [maxLen]) HP.out.low
      by_cases t61 : b2 = 61
      case neg =>
        have HV : Hid (r = none) := HRN.out (by unfold lineT; rw [if_neg (fun h => t61 (by rw [HBB.out.2]; exact h.2.2.2.1))])
        have t61' : ((b2 : Int) == 61) = false := by simp; omega
        have t61'' : ((b2 : Int) != 61) = true := by simp; omega
        go_wp2_with fail
        go_ret2
        exact PpRes.none HV.out (by simp [maxLen]) HP.out.low
      have HPC := mkHid (specParseExpr_calls (l.extract 3 l.size) wr (by rw [ByteArray.size_extract]; omega))
      obtain ⟨q, hq⟩ : ∃ q, q = parseE (l.extract 3 l.size) := ⟨_, rfl⟩
      have HQ := mkHid hq
      rw [← hq] at HPC
      obtain ⟨x, ok⟩ := q
      subst t61
      clear hq
      go_wp2_with fail
      refine HPC.out.mono ?_
      rintro e w2 ⟨kv, rfl, hkv, hb2⟩
      obtain ⟨adk, capk, rfl, -, -, -⟩ := id hkv
      have HKV := mkHid hkv
      have HB2 := mkHid hb2
      have HXI : Hid (I64 x.op ∧ I64 x.num) := by
        have h := (parseT_rng (l.extract 3 l.size) 16 0).i64
        have h2 := HQ.out
        unfold parseE at h2
        split at h2
        · rw [Prod.mk.injEq] at h2; rw [h2.1]; exact h
        · rw [Prod.mk.injEq] at h2; rw [h2.1]; exact ⟨⟨by decide, by decide⟩, ⟨by decide, by decide⟩⟩
      obtain ⟨o, ho⟩ : ∃ o, o = x.op := ⟨_, rfl⟩
      obtain ⟨m, hm⟩ : ∃ m, m = x.num := ⟨_, rfl⟩
      obtain ⟨z, hz⟩ : ∃ z, z = x.kids.length := ⟨_, rfl⟩
      simp only [] at HKV ⊢
      rw [← ho, ← hm, ← hz]
      rw [← hz] at HKV
      have HOM := mkHid (And.intro ho hm)
      have HL2 : Hid (Below w.heap.size w (w2.alloc (.cells #[.int .i64 o, .int .i64 m, .slice adk z capk] 31))) := HP.out.low.trans ((hb2.trans ((box_below _ _).mono hb2.size)).mono HP.out.low.size)
      clear hkv hb2 ho hm hz
      cases ok with
      | false =>
        have HV : Hid (r = none) := HRN.out (by unfold lineT; rw [if_neg (fun h => by rw [← HQ.out] at h; exact absurd h.2.2.2.2 Bool.false_ne_true)])
        go_wp2_with fail
        go_ret2
        exact PpRes.none HV.out (by simp [maxLen]) HL2.out
      | true =>
        obtain ⟨A, hA⟩ : ∃ A, A = b1 - 48 := ⟨_, rfl⟩
        have hA9 : A ≤ 9 := by omega
        have hw1 : IntKind.u8.wrap ((b1 : Int) - 48) = (A : Int) := by rw [IntWalk.u8_in _ (by omega)]; omega
        have HV : Hid (linesT L0 = (linesT (L0.drop (i + 1))).map ((ds ++ [((A : Int), x)]) ++ ·)) := HRS.out _ (by
          unfold lineT
          have e := HBB.out
          have q := HQ.out
          rw [← q, ← e.1, ← e.2, if_pos ⟨t4, t48, t57, rfl, rfl⟩, hA])
        obtain ⟨wb, hwb⟩ : ∃ wb, wb = w2.alloc (.cells #[.int .i64 o, .int .i64 m, .slice adk z capk] 31) := ⟨_, rfl⟩
        have HWB := mkHid hwb
        have x0 := box_cell w2 #[.int .i64 o, .int .i64 m, .slice adk z capk] 31 0 _ rfl
        have x1 := box_cell w2 #[.int .i64 o, .int .i64 m, .slice adk z capk] 31 1 _ rfl
        have x2 := box_cell w2 #[.int .i64 o, .int .i64 m, .slice adk z capk] 31 2 _ rfl
        rw [← hwb] at HL2
        clear hA hwb
        go_wp2_with fail
        rw [← HWB.out] at x0 x1 x2 ⊢
        obtain ⟨xs, hx1, hx2⟩ := HP.out.own
        rw [HDL.out] at hx1
        have HBB2 : Hid (Below wr.heap.size wr wb) := by rw [Hid, HWB.out]; exact HB2.out.trans ((box_below _ _).mono HB2.out.size)
        have HWW : Hid (Below wr.heap.size wr (wb.alloc (.cells #[.int .i64 (A : Int), .int .i64 o, .int .i64 m, .slice adk z capk] 33)).drew) := (HBB2.out.alloc HBB2.out.size _).drew
        have HXW : Hid ((wb.alloc (.cells #[.int .i64 (A : Int), .int .i64 o, .int .i64 m, .slice adk z capk] 33)).drew.ownsRow w.heap.size 33 4 u5 i xs) := own_keep hx1 fun k _ hk => HWW.out.block k hk
        have HXT : Hid (∀ (j : Nat) (hj : j < ds.length), ∃ a b c e, xs[j * 4]? = some a ∧ xs[j * 4 + 1]? = some b ∧ xs[j * 4 + 2]? = some c ∧ xs[j * 4 + 3]? = some e ∧ DfOn (wb.alloc (.cells #[.int .i64 (A : Int), .int .i64 o, .int .i64 m, .slice adk z capk] 33)).drew (fun k => PN w.heap.size (wb.alloc (.cells #[.int .i64 (A : Int), .int .i64 o, .int .i64 m, .slice adk z capk] 33)).drew k ∧ some k ≠ u5.ownBlock) ds[j] a b c e) := by
          intro j hj
          obtain ⟨a, b, c, e, e1, e2, e3, e4, e5⟩ := hx2 j hj
          exact ⟨a, b, c, e, e1, e2, e3, e4, e5.mono (fun k hk => ⟨hk.1.go (Nat.le_refl _) (HWW.out.block k hk.1.2.1), hk.2⟩) fun k hk => HWW.out.block k hk.1.2.1⟩
        have HOB : Hid (∀ g, some g = u5.ownBlock → w.heap.size ≤ g ∧ g < wr.heap.size) := fun g e => own_some hx1 g e.symm
        have HXN : Hid (DfOn (wb.alloc (.cells #[.int .i64 (A : Int), .int .i64 o, .int .i64 m, .slice adk z capk] 33)).drew (fun k => PN w.heap.size (wb.alloc (.cells #[.int .i64 (A : Int), .int .i64 o, .int .i64 m, .slice adk z capk] 33)).drew k ∧ some k ≠ u5.ownBlock) ((A : Int), x) (.int .i64 (A : Int)) (.int .i64 o) (.int .i64 m) (.slice adk z capk)) := by
          have hblk : ∀ k, k < w2.heap.size → (wb.alloc (.cells #[.int .i64 (A : Int), .int .i64 o, .int .i64 m, .slice adk z capk] 33)).drew.heap[k]? = w2.heap[k]? := fun k h1 => by
            have h3 : wb.heap.size = w2.heap.size + 1 := by rw [HWB.out, Deep.nblk_alloc]
            refine (Deep.blk_alloc_lt wb _ k (by omega)).trans ?_
            rw [HWB.out, Deep.blk_alloc_lt _ _ _ h1]
          refine ⟨rfl, ⟨by show _ ≤ (A : Int); omega, by show (A : Int) ≤ _; omega⟩, trOn_iff.2 ⟨by rw [HOM.out.1], by rw [HOM.out.2], HXI.out.1, HXI.out.2, HKV.out.mono (fun k hk => ⟨hk.go HP.out.low.size (hblk k hk.2.1), fun e => ?_⟩) fun k hk => hblk k hk.2.1⟩⟩
          have h1 : wr.heap.size ≤ k := hk.1
          have := (HOB.out k e).2
          omega
        have HSB : Hid (w.heap.size ≤ (wb.alloc (.cells #[.int .i64 (A : Int), .int .i64 o, .int .i64 m, .slice adk z capk] 33)).drew.heap.size) := Nat.le_trans HP.out.low.size HWW.out.size
        have hi6 : i ≤ 6 := by omega
        have hw2 : IntKind.i64.wrap (A : Int) = (A : Int) := IntWalk.i64_in _ (by omega)
        have HN1 := mkHid hn1
        clear hx1 hx2
        go_region_law (go_must (refine step_append_where rfl (.tmp 58) (.tmp 65) 23 rfl w.heap.size 33 iE zE 4 48 Try.underlying23 HE.out.1 HE.out.2.1 HE.out.2.2.1 HE.out.2.2.2.1 HE.out.2.2.2.2 (by decide) u5 i xs (by simp [Act.eval, Act.put]) HXW.out ⟨wb.heap.size, 0, none⟩ 1 1 [.int .i64 (A : Int), .int .i64 o, .int .i64 m, .slice adk z capk] (by simp [Act.eval, Act.put]) rfl (fun j u hu => by rw [WideShapes.add_plain, Nat.zero_add]; exact box_cell wb #[.int .i64 (A : Int), .int .i64 o, .int .i64 m, .slice adk z capk] _ j u (by simpa using hu)) (by simp [Value.oneCell']) (by unfold maxLen; omega) (by omega) HSB.out (by omega) ?_); go_must (intro v' w3 hown hg hw); go_must (have HX3 := mkHid hown); go_must (have HG3 := mkHid hg); go_must (have HW3 := mkHid hw); clear hown hg hw)
        all_goals
          have HP3 : Hid (PqR w w1 w3 (ds ++ [((A : Int), x)]) v') := by
            have hwb2 : wb.heap.size ≤ w3.heap.size := Nat.le_trans (by show wb.heap.size ≤ (wb.alloc _).heap.size; rw [Deep.nblk_alloc]; omega) HG3.out.size
            have hwr : wr.heap.size ≤ w3.heap.size := Nat.le_trans HBB2.out.size hwb2
            refine ⟨OwnDf.step xs (by rw [HDL.out]; exact HXW.out) HSB.out HXT.out HXN.out (by rw [HDL.out]; exact HX3.out) HG3.out HW3.out, fun b hb => ?_, ?_, fun k h1 h2 => ?_, Nat.le_trans HP.out.size hwr⟩
            · rcases HW3.out with h | ⟨b', h, hge⟩
              · exact HP.out.blk b (h ▸ hb)
              · rw [h] at hb
                obtain rfl := Option.some.inj hb
                exact Or.inr (Nat.le_trans HP.out.size (Nat.le_trans HWW.out.size hge))
            · exact (HP.out.low.trans (HWW.out.mono HP.out.low.size)).grown HG3.out HSB.out fun b e => (HOB.out b e.symm).1
            · have hkw : k < wr.heap.size := Nat.lt_of_lt_of_le h2 HP.out.size
              rw [HG3.out.block k (Nat.lt_of_lt_of_le hkw HWW.out.size) (fun e => by rcases HP.out.blk k e.symm with h | h <;> omega), HWW.out.block k hkw]
              exact HP.out.mid k h1 h2
          have HDL3 : Hid ((ds ++ [((A : Int), x)]).length = i + 1) := by rw [Hid, List.length_append, HDL.out]; rfl
          clear HX3 HG3 HW3
          go_wp2_with fail
          exact ⟨⟨i + 1, ds ++ [((A : Int), x)], hlt, by simp, HP3, HDL3, HV⟩, by simp only [intOf]; omega⟩
    · have hin : i = n0 := by omega
      have HR2 : Hid (r = if progB ds = true ∧ (⟨(progT 0 ds).toArray⟩ : ByteArray) = s then some ds else none) := by
        have e : L0.drop i = [] := List.drop_eq_nil_of_le (by rw [hin, HN0.out]; exact Nat.le_refl _)
        rw [Hid, HR.out, HLT.out, e]; simp [linesT]
      have HDD := mkHid (OwnDf.defs HP.out.own)
      have HDI := mkHid (show DIn wr ds u5 from HDD.out.mono (fun _ hk => hk.2.1) (fun _ _ => rfl))
      have HPV := mkHid (specProg_calls ds u5 wr HDI.out)
      have HPP : Hid (∀ W, Below wr.heap.size wr W → progB ds = true → Calls Try.prog 92 #[u5] W fun e w' => e = .returned (.string ⟨(progT 0 ds).toArray⟩) ∧ Below W.heap.size W w') := fun W h hp => l1Program_calls ds u5 W (HDI.out.next h) hp
      obtain ⟨T, hT⟩ : ∃ T, T = (⟨(progT 0 ds).toArray⟩ : ByteArray) := ⟨_, rfl⟩
      rw [← hT] at HR2 HPP
      have hcond : ((i : Int) < (nl : Int) - 1 ∧ ¬ (i : Int) ≤ 6) ∨ ¬ (i : Int) < (nl : Int) - 1 := by omega
      clear hin hT
      rcases hcond with ⟨hi1, hi2⟩ | hi1
      all_goals
        go_wp2_with fail
        refine HPV.out.mono ?_
        rintro e w2 ⟨rfl, hb2⟩
        have HB2 := mkHid hb2
        clear hb2
        cases hp : progB ds with
        | false =>
          have HV : Hid (r = none) := by rw [Hid, HR2.out, if_neg (fun h => by rw [hp] at h; exact absurd h.1 Bool.false_ne_true)]
          go_wp2_with fail
          go_ret2
          exact PpRes.none HV.out (by simp [maxLen]) (HP.out.low.trans (HB2.out.mono HP.out.low.size))
        | true =>
          have HPC := mkHid (HPP.out w2 HB2.out hp)
          go_wp2_with fail
          refine HPC.out.mono ?_
          rintro e w3 ⟨rfl, hb3⟩
          have HB3 : Hid (Below wr.heap.size wr w3) := HB2.out.trans (hb3.mono HB2.out.size)
          clear hb3
          by_cases hTs : T = s
          · have HV : Hid (r = some ds) := by rw [Hid, HR2.out, if_pos ⟨hp, hTs⟩]
            subst hTs
            go_wp2_with fail
            go_ret2
            rw [HV.out]
            exact ⟨_, rfl, HDD.out.mono (fun k hk => hk.go (Nat.le_refl _) (HB3.out.block k hk.2.1)) (fun k hk => HB3.out.block k hk.2.1), HP.out.low.trans (HB3.out.mono HP.out.low.size)⟩
          · have HV : Hid (r = none) := by rw [Hid, HR2.out, if_neg (fun h => hTs h.2)]
            have m1 : ¬ T.toList = s.toList := fun h => hTs (by
              rw [ByteArray.toList_eq, ByteArray.toList_eq] at h
              cases T; cases s; congr; exact Array.toList_inj.1 h)
            have m2 : (T.toList == s.toList) = false := by simpa using m1
            go_wp2_with fail
            go_ret2
            exact PpRes.none HV.out (by simp [maxLen]) (HP.out.low.trans (HB3.out.mono HP.out.low.size))
end Go.Proofs.Ytpkephkgaflklaa
/-
  THE MODEL's READER OF DRAWS: num, l16Open.
-/
namespace Go.Proofs.Ytpkephkgaflklaa
set_option linter.unusedVariables false
set_option linter.unusedSimpArgs false
open Go.RowKit

/-- a slice value that holds these numbers, in a block other than b -/
def IntsBut (w : World) (b : Nat) (L : List Int) (v : Value) : Prop :=
  ∃ bl off cap, v = .slice (some ⟨bl, off, none⟩) L.length cap ∧ bl ≠ b ∧ bl < w.heap.size ∧ ∀ i (hi : i < L.length), w.cell? ⟨bl, off + i, none⟩ = some (.int .i64 L[i])

/-- num has answered -/
def Numbered (L : List Int) (w : World) (b p : Nat) (e : Ending) (w' : World) : Prop :=
  ∃ x : Int, e = .returned (.int .i64 x) ∧ x ∈ L ∧ RdOn w' b (p + 1) ∧ But b w w'

set_option maxHeartbeats 800000 in
theorem num_calls (L : List Int) (v : Value) (w : World) (b p : Nat) (h : RdOn w b p) (hp : p ≤ 1099511627776) (hv : IntsBut w b L v) (hL : 0 < L.length) (hL1 : L.length ≤ 1000) :
    Calls Try.prog 72 #[.pointer (some ⟨b, 0, none⟩), v] w (Numbered L w b p) := by
  obtain ⟨bl, off, cap, rfl, hb, hlt, hc⟩ := hv
  have HC : Hid (∀ i (hi : i < L.length), w.cell? ⟨bl, off + i, none⟩ = some (.int .i64 L[i])) := hc
  have HR : Hid (RdOn w b p) := h
  clear hc h
  go_enter Try.func72, Try.ntmps72
  go_wp2_with fail
  refine (pick_calls L.length _ b p HR.out hp (by omega)).mono ?_
  rintro e w1 ⟨x, rfl, h0, h1, -, hr1, hb1⟩
  have HR1 : Hid (RdOn w1 b (p + 1)) := hr1
  have HB1 : Hid (But b w w1) := hb1
  have hx : x < L.length := h1 (by omega)
  obtain ⟨k, rfl⟩ := Int.eq_ofNat_of_zero_le h0
  have hk : k < L.length := by omega
  have c1 : w1.cell? ⟨bl, off + k, none⟩ = some (.int .i64 L[k]) := (hb1.cell (p := ⟨bl, off + k, none⟩) hlt hb).trans (HC.out k hk)
  clear h1 hr1 hb1
  go_wp2_with fail
  go_ret
  exact ⟨L[k], rfl, List.getElem_mem hk, HR1.out, HB1.out⟩

/-- a new reader lies in block b -/
def Opened (w : World) (e : Ending) (w' : World) : Prop := e = .returned (.pointer (some ⟨w.heap.size, 0, none⟩)) ∧ RdOn w' w.heap.size 0 ∧ Below w.heap.size w w'

theorem opened_of (w : World) (len : Nat) (v : Value) (h : BytesOn w (Lt w.heap.size) len v) (hl : len ≤ 2000) : Opened w (.returned (.pointer (some ⟨w.heap.size, 0, none⟩))) (w.alloc (.cells #[v, .int .i64 0] 95)) := by
  refine ⟨rfl, ⟨len, v, h.mono (fun k hk => hk) (fun k hk => Deep.blk_alloc_lt _ _ _ hk), hl, ?_⟩, box_below _ _⟩
  exact Deep.blk_alloc_new _ _

set_option maxHeartbeats 800000 in
theorem open_calls (len : Nat) (v : Value) (w : World) (h : BytesOn w (Lt w.heap.size) len v) : Calls Try.prog 22 #[v] w (Opened w) := by
  by_cases hl : 2000 < len
  · have h' := h
    obtain ⟨ad, cap, rfl, h1, h2, h3⟩ := h
    unfold maxLen at h2
    rcases h3 with h3 | ⟨bl, off, rfl, hs, hr⟩
    · omega
    have HO : Hid (Opened w (.returned (.pointer (some ⟨w.heap.size, 0, none⟩))) (w.alloc (.cells #[.slice (some ⟨bl, off, none⟩) 2000 cap, .int .i64 0] 95))) :=
      opened_of w 2000 _ ⟨_, cap, rfl, by omega, by unfold maxLen; omega, Or.inr ⟨bl, off, rfl, hs, fun i hi => hr i (by omega)⟩⟩ (by omega)
    clear hr h'
    go_enter Try.func22, Try.ntmps22
    go_wp2_with fail
    go_ret
    exact HO.out
  · have HO : Hid (Opened w (.returned (.pointer (some ⟨w.heap.size, 0, none⟩))) (w.alloc (.cells #[v, .int .i64 0] 95))) := opened_of w len v h (by omega)
    obtain ⟨ad, cap, rfl, h1, h2, -⟩ := h
    go_enter Try.func22, Try.ntmps22
    go_wp2_with fail
    go_ret
    exact HO.out
end Go.Proofs.Ytpkephkgaflklaa
/-
  THE MODEL's l1Texts AND l1Draw: a drawn program is valid, or empty.
-/
namespace Go.Proofs.Ytpkephkgaflklaa
set_option linter.unusedVariables false
set_option linter.unusedSimpArgs false
open Go.RowKit

/-- texts in a row: each of them short -/
def TxRow (w w' : World) (e : Ending) : Prop := ∃ g, e = .returned (.slice (some ⟨g, 0, none⟩) 12 12) ∧ w.heap.size ≤ g ∧ g < w'.heap.size ∧ (∀ i, i < 12 → ∃ s : ByteArray, w'.cell? ⟨g, i, none⟩ = some (.string s) ∧ s.size ≤ 1000) ∧ Below w.heap.size w w'
abbrev txC : Array Value := #[.string ⟨#[65, 49, 61, 40, 97, 43, 97, 41, 10, 66, 49, 61, 40, 65, 32, 40, 65, 32, 97, 41, 41, 10]⟩, .string ⟨#[65, 50, 61, 97, 10, 66, 50, 61, 98, 10, 67, 49, 61, 40, 40, 65, 32, 97, 41, 32, 40, 67, 32, 97, 41, 41, 10]⟩, .string ⟨#[65, 49, 61, 91, 97, 63, 49, 58, 40, 97, 43, 40, 65, 32, 40, 97, 45, 49, 41, 41, 41, 93, 10]⟩, .string ⟨#[65, 49, 61, 60, 97, 44, 40, 65, 32, 40, 97, 43, 49, 41, 41, 62, 10, 66, 50, 61, 91, 97, 63, 126, 98, 58, 40, 40, 66, 32, 40, 97, 45, 49, 41, 41, 32, 94, 98, 41, 93, 10]⟩, .string ⟨#[65, 51, 61, 40, 40, 97, 32, 99, 41, 32, 40, 98, 32, 99, 41, 41, 10, 66, 50, 61, 97, 10, 67, 48, 61, 40, 40, 65, 32, 66, 41, 32, 66, 41, 10]⟩, .string ⟨#[65, 49, 61, 60, 94, 97, 44, 126, 97, 62, 10, 66, 49, 61, 40, 126, 97, 43, 94, 97, 41, 10, 67, 49, 61, 40, 66, 32, 40, 65, 32, 60, 97, 44, 50, 62, 41, 41, 10]⟩, .string ⟨#[65, 50, 61, 91, 97, 63, 98, 58, 40, 40, 65, 32, 40, 97, 45, 49, 41, 41, 32, 40, 98, 43, 98, 41, 41, 93, 10]⟩, .string ⟨#[65, 48, 61, 60, 49, 44, 65, 62, 10, 66, 49, 61, 126, 94, 97, 10]⟩, .string ⟨#[65, 50, 61, 40, 97, 32, 98, 41, 10, 66, 49, 61, 40, 40, 65, 32, 67, 41, 32, 97, 41, 10, 67, 49, 61, 40, 97, 45, 51, 41, 10]⟩, .string ⟨#[65, 50, 61, 91, 98, 63, 49, 58, 40, 40, 67, 32, 97, 41, 32, 40, 40, 65, 32, 97, 41, 32, 40, 98, 45, 49, 41, 41, 41, 93, 10, 66, 49, 61, 40, 97, 43, 49, 41, 10, 67, 50, 61, 40, 97, 32, 98, 41, 10]⟩, .string ⟨#[65, 49, 61, 40, 66, 32, 97, 41, 10, 66, 49, 61, 40, 65, 32, 97, 41, 10]⟩, .string ⟨#[]⟩]
theorem txC_at : ∀ i, i < 12 → ∃ s : ByteArray, txC[i]? = some (.string s) ∧ s.size ≤ 1000 := by
  intro i hi
  rcases (by omega : i = 0 ∨ i = 1 ∨ i = 2 ∨ i = 3 ∨ i = 4 ∨ i = 5 ∨ i = 6 ∨ i = 7 ∨ i = 8 ∨ i = 9 ∨ i = 10 ∨ i = 11) with rfl | rfl | rfl | rfl | rfl | rfl | rfl | rfl | rfl | rfl | rfl | rfl <;> exact ⟨_, rfl, by decide⟩

set_option maxRecDepth 100000 in
set_option maxHeartbeats 1600000 in
theorem l1Texts_calls (w : World) : Calls Try.prog 59 #[] w fun e w' => TxRow w w' e := by
  have HT : Hid (TxRow w (w.alloc (.cells txC 9)) (.returned (.slice (some ⟨w.heap.size, 0, none⟩) 12 12))) :=
    ⟨_, rfl, Nat.le_refl _, by rw [Deep.nblk_alloc]; omega, fun i hi => by obtain ⟨s, h1, h2⟩ := txC_at i hi; exact ⟨s, box_cell w _ _ i _ h1, h2⟩, box_below _ _⟩
  go_enter Try.func59, Try.ntmps59
  go_wp2_with fail
  go_ret
  exact HT.out

theorem parseP_valid (s : ByteArray) : progB ((parseP s).getD []) = true := by
  unfold parseP
  cases linesT (linesOf s) with
  | none => rfl
  | some ds =>
    simp only [Option.bind_some]
    split
    · rename_i h; exact h.1
    · rfl
/-- a drawn program -/
def Drawn (w : World) (b p : Nat) (e : Ending) (w' : World) : Prop :=
  ∃ ds v, e = .returned v ∧ progB ds = true ∧ DefsOn w' (PN w.heap.size w') ds v ∧ RdOn w' b (p + 1) ∧ But b w w'

set_option maxRecDepth 100000 in
set_option maxHeartbeats 1600000 in
theorem l1Draw_calls (w : World) (b p : Nat) (h : RdOn w b p) (hp : p ≤ 1000000) : Calls Try.prog 23 #[.pointer (some ⟨b, 0, none⟩)] w (Drawn w b p) := by
  have HR := mkHid h
  have HLT := mkHid h.lt
  clear h
  go_enter Try.func23, Try.ntmps23
  go_wp2_with fail
  refine (l1Texts_calls w).mono ?_
  rintro e w1 ⟨g, rfl, hg1, hg2, hgc, hb1⟩
  have HC := mkHid hgc
  have HB1 := mkHid hb1
  have HR1 := mkHid (HR.out.next hb1)
  clear hgc hb1
  go_wp2_with fail
  refine (pick_calls 12 _ b p HR1.out (by omega) (by decide)).mono ?_
  rintro e w2 ⟨x, rfl, h0, h1, -, hr2, hb2⟩
  have HR2 := mkHid hr2
  have HB2 := mkHid hb2
  have hx : x < 12 := h1 (by decide)
  obtain ⟨k, rfl⟩ := Int.eq_ofNat_of_zero_le h0
  have hk : k < 12 := by omega
  obtain ⟨s, hs1, hs2⟩ := HC.out k hk
  have c1 : w2.cell? ⟨g, k, none⟩ = some (.string s) := (hb2.cell (p := ⟨g, k, none⟩) hg2 (by have := HLT.out; show g ≠ b; omega)).trans hs1
  have HPP := mkHid (specParseProgram_calls s w2 (by omega))
  clear h1 hr2 hb2 hs1
  go_wp2_with fail
  refine HPP.out.mono ?_
  rintro e w3 ⟨v, rfl, hd3, hb3⟩
  have HV := mkHid (parseP_valid s)
  obtain ⟨ok, hok⟩ : ∃ ok, ok = (parseP s).isSome := ⟨_, rfl⟩
  obtain ⟨ds, hds⟩ : ∃ ds, ds = (parseP s).getD [] := ⟨_, rfl⟩
  rw [← hok]
  rw [← hds] at hd3 HV
  have HD3 := mkHid hd3
  have HB3 := mkHid hb3
  have HR3 := mkHid (HR2.out.next hb3)
  clear hd3 hb3 hok hds
  go_wp2_with fail
  go_ret
  have hz1 := HB1.out.size
  have hz2 := HB2.out.size
  exact ⟨ds, v, rfl, HV.out, HD3.out.mono (fun k hk => hk.go (by omega) rfl) (fun _ _ => rfl), HR3.out, ((But.of_below HB1.out).trans HB2.out).trans (But.of_below HB3.out)⟩
end Go.Proofs.Ytpkephkgaflklaa
/-
  slices.Reverse AT A ROW OF EXPRESSIONS: the elements' cells, turned around; nothing else is changed.
-/
namespace Go.Proofs.Ytpkephkgaflklaa
set_option linter.unusedVariables false
set_option linter.unusedSimpArgs false
open Go.RowKit

/-- a row behind k exchanges from both ends -/
def revF (n k : Nat) (f : Nat → Value) (i : Nat) : Value := if i / 3 < n ∧ (i / 3 < k ∨ n ≤ i / 3 + k) then f ((n - 1 - i / 3) * 3 + i % 3) else f i

theorem revF_at (n k : Nat) (f : Nat → Value) (j r : Nat) (hr : r < 3) : revF n k f (j * 3 + r) = if j < n ∧ (j < k ∨ n ≤ j + k) then f ((n - 1 - j) * 3 + r) else f (j * 3 + r) := by
  unfold revF
  rw [show (j * 3 + r) / 3 = j by omega, show (j * 3 + r) % 3 = r by omega]
theorem grown_set {w w1 : World} {g : Nat} (h : w.grownBy w1 (some g)) (i : Nat) (u : Value) : w.grownBy (w1.setCell ⟨g, i, none⟩ u) (some g) :=
  ⟨h.os, h.tape, h.output, by rw [size_setCell]; exact h.size, fun k hk hne => (Below.heap_setCell _ _ _ _ (fun e => hne (by rw [e]))).trans (h.block k hk hne)⟩
theorem grown_drew_r {w w1 : World} {r : Option Nat} (h : w.grownBy w1 r) : w.grownBy w1.drew r := ⟨h.os, h.tape, h.output, h.size, h.block⟩

set_option maxRecDepth 100000 in
set_option maxHeartbeats 800000 in
theorem rev_calls (g n cap : Nat) (f : Nat → Value) (w : World) (hr : w.rowIs g 31 (cap * 3) f) (hn : n ≤ cap) (hc : cap ≤ maxLen)
    (hf : ∀ j, j < n → ∃ p q ad l c, f (j * 3) = .int .i64 p ∧ f (j * 3 + 1) = .int .i64 q ∧ f (j * 3 + 2) = .slice ad l c) :
    Calls Try.prog 115 #[.slice (some ⟨g, 0, none⟩) n cap] w fun e w' => e = .returned (.tuple #[]) ∧ (∃ f', w'.rowIs g 31 (cap * 3) f' ∧ ∀ j r, j < n → r < 3 → f' (j * 3 + r) = f ((n - 1 - j) * 3 + r)) ∧ w.grownBy w' (some g) := by
  unfold maxLen at hc
  have HR : Hid (w.rowIs g 31 (cap * 3) f) := hr
  clear hr
  go_enter Try.func115, Try.ntmps115
  go_wp2_with fail
  go_loopw [2, 3] (fun i j wr => ∃ k : Nat, 2 * k ≤ n ∧ i = .int .i64 k ∧ j = .int .i64 ((n : Int) - 1 - k) ∧ wr.rowIs g 31 (cap * 3) (revF n k f) ∧ w.grownBy wr (some g)) (fun i _ _ => n - (intOf i).toNat)
  case atStart => exact ⟨0, by omega, rfl, by simp, HR.out.congr fun i hi => by unfold revF; rw [if_neg (by omega)], rfl, rfl, rfl, Nat.le_refl _, fun _ _ _ => rfl⟩
  case round =>
    obtain ⟨k, hk, rfl, rfl, hrow, hg⟩ := hrel
    by_cases hlt : (k : Int) < (n : Int) - 1 - k
    · obtain ⟨m, hm⟩ : ∃ m : Nat, (n : Int) - 1 - k = m := ⟨n - 1 - k, by omega⟩
      rw [hm] at hlt ⊢
      have hkm : k < m := by omega
      have hmn : m < n := by omega
      have ek : ∀ r, r < 3 → revF n k f (k * 3 + r) = f (k * 3 + r) := fun r hr => by unfold revF; rw [if_neg (by intro h; omega)]
      have em : ∀ r, r < 3 → revF n k f (m * 3 + r) = f (m * 3 + r) := fun r hr => by unfold revF; rw [if_neg (by intro h; omega)]
      have a0 := hrow.cell (i := k * 3) (by omega)
      have a1 := hrow.cell (i := k * 3 + 1) (by omega)
      have a2 := hrow.cell (i := k * 3 + 2) (by omega)
      have b0 := hrow.cell (i := m * 3) (by omega)
      have b1 := hrow.cell (i := m * 3 + 1) (by omega)
      have b2 := hrow.cell (i := m * 3 + 2) (by omega)
      have fz := hrow.frozen
      have HRow : Hid (wr.rowIs g 31 (cap * 3) (revF n k f)) := hrow
      have HG : Hid (w.grownBy wr (some g)) := hg
      have HM : Hid ((n : Int) - 1 - k = m) := hm
      clear hrow hg hm
      obtain ⟨p, q, ad, l, c, e0, e1, e2⟩ := hf k (by omega)
      obtain ⟨p', q', ad', l', c', e0', e1', e2'⟩ := hf m (by omega)
      rw [show k * 3 = k * 3 + 0 from rfl, ek 0 (by omega), Nat.add_zero, e0] at a0
      rw [ek 1 (by omega), e1] at a1
      rw [ek 2 (by omega), e2] at a2
      rw [show m * 3 = m * 3 + 0 from rfl, em 0 (by omega), Nat.add_zero, e0'] at b0
      rw [em 1 (by omega), e1'] at b1
      rw [em 2 (by omega), e2'] at b2
      have HE : Hid (f (k * 3) = .int .i64 p ∧ f (k * 3 + 1) = .int .i64 q ∧ f (k * 3 + 2) = .slice ad l c ∧ f (m * 3) = .int .i64 p' ∧ f (m * 3 + 1) = .int .i64 q' ∧ f (m * 3 + 2) = .slice ad' l' c') := ⟨e0, e1, e2, e0', e1', e2'⟩
      clear ek em e0 e1 e2 e0' e1' e2' hf
      go_wp2_with fail
      go_big_region
      have HR' : Hid ((((((((wr.setCell ⟨g, k * 3, none⟩ (.int .i64 p')).setCell ⟨g, k * 3 + 1, none⟩ (.int .i64 q')).setCell ⟨g, k * 3 + 2, none⟩ (.slice ad' l' c')).setCell ⟨g, m * 3, none⟩ (.int .i64 p)).setCell ⟨g, m * 3 + 1, none⟩ (.int .i64 q)).setCell ⟨g, m * 3 + 2, none⟩ (.slice ad l c)).drew).rowIs g 31 (cap * 3) (revF n (k + 1) f)) := by
        refine ((((((HRow.out.set (k * 3) _).set (k * 3 + 1) _).set (k * 3 + 2) _).set (m * 3) _).set (m * 3 + 1) _).set (m * 3 + 2) _).drew.congr fun i hi => ?_
        obtain ⟨h0, h1, h2, h3, h4, h5⟩ := HE.out
        have hm := HM.out
        obtain ⟨j, r, hr, rfl⟩ : ∃ j r, r < 3 ∧ i = j * 3 + r := ⟨i / 3, i % 3, by omega, by omega⟩
        have e1 : n - 1 - k = m := by omega
        have e2 : n - 1 - m = k := by omega
        simp only [revF_at n _ f j r hr]
        rcases (by omega : r = 0 ∨ r = 1 ∨ r = 2) with rfl | rfl | rfl
        · by_cases hjk : j = k
          · subst hjk
            rw [if_neg (by omega), if_neg (by omega), if_neg (by omega), if_neg (by omega), if_neg (by omega), if_pos (by omega), if_pos (by omega), e1]; exact h3.symm
          by_cases hjm : j = m
          · subst hjm
            rw [if_neg (by omega), if_neg (by omega), if_pos (by omega), if_pos (by omega), e2]; exact h0.symm
          rw [if_neg (by omega), if_neg (by omega), if_neg (by omega), if_neg (by omega), if_neg (by omega), if_neg (by omega)]
          by_cases hc : j < n ∧ (j < k ∨ n ≤ j + k)
          · rw [if_pos hc, if_pos (by omega)]
          · rw [if_neg hc, if_neg (by omega)]
        · by_cases hjk : j = k
          · subst hjk
            rw [if_neg (by omega), if_neg (by omega), if_neg (by omega), if_neg (by omega), if_pos (by omega), if_pos (by omega), e1]; exact h4.symm
          by_cases hjm : j = m
          · subst hjm
            rw [if_neg (by omega), if_pos (by omega), if_pos (by omega), e2]; exact h1.symm
          rw [if_neg (by omega), if_neg (by omega), if_neg (by omega), if_neg (by omega), if_neg (by omega), if_neg (by omega)]
          by_cases hc : j < n ∧ (j < k ∨ n ≤ j + k)
          · rw [if_pos hc, if_pos (by omega)]
          · rw [if_neg hc, if_neg (by omega)]
        · by_cases hjk : j = k
          · subst hjk
            rw [if_neg (by omega), if_neg (by omega), if_neg (by omega), if_pos (by omega), if_pos (by omega), e1]; exact h5.symm
          by_cases hjm : j = m
          · subst hjm
            rw [if_pos (by omega), if_pos (by omega), e2]; exact h2.symm
          rw [if_neg (by omega), if_neg (by omega), if_neg (by omega), if_neg (by omega), if_neg (by omega), if_neg (by omega)]
          by_cases hc : j < n ∧ (j < k ∨ n ≤ j + k)
          · rw [if_pos hc, if_pos (by omega)]
          · rw [if_neg hc, if_neg (by omega)]
      have HG' : Hid (w.grownBy (((((((wr.setCell ⟨g, k * 3, none⟩ (.int .i64 p')).setCell ⟨g, k * 3 + 1, none⟩ (.int .i64 q')).setCell ⟨g, k * 3 + 2, none⟩ (.slice ad' l' c')).setCell ⟨g, m * 3, none⟩ (.int .i64 p)).setCell ⟨g, m * 3 + 1, none⟩ (.int .i64 q)).setCell ⟨g, m * 3 + 2, none⟩ (.slice ad l c)).drew) (some g)) := by
        exact grown_drew_r (grown_set (grown_set (grown_set (grown_set (grown_set (grown_set HG.out _ _) _ _) _ _) _ _) _ _) _ _)
      clear a0 a1 a2 b0 b1 b2 fz
      generalize ((((((wr.setCell ⟨g, k * 3, none⟩ (.int .i64 p')).setCell ⟨g, k * 3 + 1, none⟩ (.int .i64 q')).setCell ⟨g, k * 3 + 2, none⟩ (.slice ad' l' c')).setCell ⟨g, m * 3, none⟩ (.int .i64 p)).setCell ⟨g, m * 3 + 1, none⟩ (.int .i64 q)).setCell ⟨g, m * 3 + 2, none⟩ (.slice ad l c)).drew = wz at *
      go_wp2_with fail
      have hm := HM.out
      unfold Hid at hm
      refine ⟨⟨k + 1, by omega, by simp, ?_, HR'.out, HG'.out⟩, by simp [intOf]; omega⟩
      exact congrArg (Value.int .i64) (by push_cast; omega)
    · have HRow : Hid (wr.rowIs g 31 (cap * 3) (revF n k f)) := hrow
      have HG : Hid (w.grownBy wr (some g)) := hg
      clear hrow hg hf
      go_wp2_with fail
      go_end0
      refine ⟨rfl, ⟨_, HRow.out, fun j r hj hr => ?_⟩, HG.out⟩
      rw [revF_at _ _ _ _ _ hr]
      by_cases hc : j < k ∨ n ≤ j + k
      · rw [if_pos ⟨hj, hc⟩]
      · have e : n - 1 - j = j := by omega
        rw [if_neg (fun h => hc h.2), e]
end Go.Proofs.Ytpkephkgaflklaa
/-
  THE PROGRAM's unwind: the function of nested applications, and its arguments in order; nothing that was there is changed.
-/
namespace Go.Proofs.Ytpkephkgaflklaa
set_option linter.unusedVariables false
set_option linter.unusedSimpArgs false
open Go.RowKit

/-- a row of cards, in new memory -/
def CdRow (w : World) (lo : Nat) (l : List Cd) (v : Value) : Prop :=
  (l = [] ∧ v = .slice none 0 0) ∨ ∃ g cap f, v = .slice (some ⟨g, 0, none⟩) l.length cap ∧ lo ≤ g ∧ l.length ≤ cap ∧ cap ≤ maxLen ∧ w.rowIs g 31 (cap * 3) f ∧
    ∀ j (hj : j < l.length), f (j * 3) = l[j].2.1 ∧ f (j * 3 + 1) = l[j].2.2.1 ∧ f (j * 3 + 2) = l[j].2.2.2

theorem CdRow.keep {w w' : World} {lo lo' : Nat} {l : List Cd} {v : Value} (h : CdRow w lo l v) (hl : lo' ≤ lo) (hk : ∀ k, lo ≤ k → k < w.heap.size → w'.heap[k]? = w.heap[k]?) : CdRow w' lo' l v := by
  rcases h with h | ⟨g, cap, f, e, hg, hn, hc, hr, hv⟩
  · exact Or.inl h
  · exact Or.inr ⟨g, cap, f, e, Nat.le_trans hl hg, hn, hc, hr.of_block (hk g hg hr.lt), hv⟩
/-- cards, as cells -/
def cdCells (l : List Cd) : List Value := l.flatMap fun d => [d.2.1, d.2.2.1, d.2.2.2]
theorem cdCells_at : ∀ (l : List Cd) (j : Nat) (hj : j < l.length), (cdCells l)[j * 3]? = some l[j].2.1 ∧ (cdCells l)[j * 3 + 1]? = some l[j].2.2.1 ∧ (cdCells l)[j * 3 + 2]? = some l[j].2.2.2
  | [], j, hj => by simp at hj
  | d :: l, 0, _ => by simp [cdCells]
  | d :: l, j + 1, hj => by
    have := cdCells_at l j (by simpa using hj)
    have e : ∀ r, (cdCells (d :: l))[(j + 1) * 3 + r]? = (cdCells l)[j * 3 + r]? := fun r => by
      rw [show (j + 1) * 3 + r = 3 + (j * 3 + r) by omega]
      show ([d.2.1, d.2.2.1, d.2.2.2] ++ cdCells l)[3 + (j * 3 + r)]? = _
      rw [List.getElem?_append_right (by simp)]
      simp
    have e0 := e 0
    rw [Nat.add_zero, Nat.add_zero] at e0
    rw [e0, e 1, e 2]
    simpa using this
theorem own_cd {w : World} {base : Nat} {v : Value} {l : List Cd} (h : w.ownsRow base 31 3 v l.length (cdCells l)) : CdRow w base l v := by
  rcases h.2 with ⟨rfl, h0⟩ | ⟨g, cap, cur, rfl, hg, hh, hn, hc, hs, htk⟩
  · exact Or.inl ⟨List.eq_nil_of_length_eq_zero h0, rfl⟩
  · refine Or.inr ⟨g, cap, fun i => cur.getD i undef, rfl, hg, hn, hc, ⟨cur, hh, hs, fun i hi => ?_⟩, fun j hj => ?_⟩
    · simp [Array.getElem?_eq_getElem (hs ▸ hi : i < cur.size), Array.getD, (hs ▸ hi : i < cur.size)]
    · have hget : ∀ i v, i < l.length * 3 → (cdCells l)[i]? = some v → cur.getD i undef = v := fun i v hi hv => by
        rw [← htk, List.getElem?_take_of_lt hi, Array.getElem?_toList] at hv
        rw [Array.getD_eq_getD_getElem?, hv]; rfl
      obtain ⟨h0, h1, h2⟩ := cdCells_at l j hj
      exact ⟨hget _ _ (by omega) h0, hget _ _ (by omega) h1, hget _ _ (by omega) h2⟩

set_option maxHeartbeats 400000 in
theorem rev_nil (w : World) : Calls Try.prog 115 #[.slice none 0 0] w fun e w' => e = .returned (.tuple #[]) ∧ Below w.heap.size w w' := by
  go_enter Try.func115, Try.ntmps115
  go_wp2_with fail
  go_loopw [2, 3] (fun i j wr => i = .int .i64 0 ∧ j = .int .i64 (-1) ∧ Below w.heap.size w wr) (fun i _ _ => 0)
  case atStart => exact ⟨rfl, rfl, Below.refl _ _⟩
  case round =>
    obtain ⟨rfl, rfl, hb⟩ := hrel
    go_wp2_with fail
    go_end0
    exact ⟨rfl, hb⟩

theorem rev_cd (lo : Nat) (l : List Cd) (v : Value) (w : World) (h : CdRow w lo l v) (hf : ∀ d ∈ l, ∃ p q ad n c, d.2.1 = .int .i64 p ∧ d.2.2.1 = .int .i64 q ∧ d.2.2.2 = .slice ad n c) (hlo : lo ≤ w.heap.size) :
    Calls Try.prog 115 #[v] w fun e w' => e = .returned (.tuple #[]) ∧ CdRow w' lo l.reverse v ∧ Below lo w w' := by
  rcases h with ⟨rfl, rfl⟩ | ⟨g, cap, f, rfl, hg, hn, hc, hr, hv⟩
  · refine (rev_nil w).mono ?_
    rintro e w' ⟨rfl, hb⟩
    exact ⟨rfl, Or.inl ⟨rfl, rfl⟩, hb.mono hlo⟩
  · refine (rev_calls g l.length cap f w hr hn hc fun j hj => ?_).mono ?_
    · obtain ⟨p, q, ad, n, c, e0, e1, e2⟩ := hf l[j] (List.getElem_mem hj)
      obtain ⟨h0, h1, h2⟩ := hv j hj
      exact ⟨p, q, ad, n, c, h0.trans e0, h1.trans e1, h2.trans e2⟩
    · rintro e w' ⟨rfl, ⟨f', hr', hf'⟩, hgr⟩
      refine ⟨rfl, Or.inr ⟨g, cap, f', by simp, hg, by simpa using hn, hc, hr', fun j hj => ?_⟩, ⟨hgr.os, hgr.tape, hgr.output, hgr.size, fun k hk => hgr.block k (by omega) (by simp; omega)⟩⟩
      have hj' : j < l.length := by simpa using hj
      have a0 := hf' j 0 hj' (by omega)
      have a1 := hf' j 1 hj' (by omega)
      have a2 := hf' j 2 hj' (by omega)
      rw [Nat.add_zero, Nat.add_zero] at a0
      obtain ⟨h0, h1, h2⟩ := hv (l.length - 1 - j) (by omega)
      rw [List.getElem_reverse]
      exact ⟨a0.trans h0, a1.trans h1, a2.trans h2⟩

theorem ptrK : PKey Try.prog 164 embP PlainAt := by
  obtain ⟨j, hj, hs⟩ : ∃ j, Try.prog.info? 31 = some j ∧ j.size ≠ 0 := by
    have h : (Try.prog.info? 31).map (fun i => i.size) = some 3 := by kernel_rfl
    cases hi : Try.prog.info? 31 with
    | none => rw [hi] at h; simp at h
    | some j => rw [hi] at h; simp at h; exact ⟨j, rfl, by omega⟩
  exact ptr_key Try.underlying164 hj hs
theorem zeroBool (w : World) : (zeroValue 4).run Try.prog w = .ok (.bool false) w := by kernel_rfl

/-- how long a slice is -/
def slLen : Value → Nat
  | .slice _ n _ => n
  | _ => 0

/-- the three cells of a tree's box -/
def boxF (o n : Int) (c : Value) : Nat → Value := fun i => if i = 0 then .int .i64 o else if i = 1 then .int .i64 n else c
theorem box3 (o n : Int) (c : Value) : ∀ i, i < (#[.int .i64 o, .int .i64 n, c] : Array Value).size → (#[.int .i64 o, .int .i64 n, c] : Array Value)[i]? = some (boxF o n c i) := by
  intro i hi
  have hi' : i < 3 := hi
  rcases (by omega : i = 0 ∨ i = 1 ∨ i = 2) with rfl | rfl | rfl <;> rfl

/-- what holds on the way down -/
def URel (w : World) (a : Tr) (c : Value) (v : Value) (wr : World) : Prop :=
  ∃ (t : Tr) (ct : Value) (l : List Cd) (M : Addr → Option Value), Unw w a c t ct l ∧ wr.rowIs w.heap.size 31 3 (boxF t.op t.num ct) ∧ wr.rowIs (w.heap.size + 1) 31 3 (boxF 0 0 (.slice none 0 0)) ∧
    PMap embP wr (w.heap.size + 2) (fun x => ∃ s, LiesAt w (Pl w) x s ∧ szT t ≤ szT s) M ∧ wr.ownsRow (w.heap.size + 3) 31 3 v l.length (cdCells l) ∧ slLen v = l.length ∧ Below w.heap.size w wr

set_option maxRecDepth 100000 in
set_option maxHeartbeats 800000 in
theorem unwind_calls (a : Tr) (c : Value) (w : World) (hk : InP w a.kids c) (ha : I64 a.op ∧ I64 a.num) (hz : szT a ≤ 1099511627776) :
    Calls Try.prog 107 #[.agg #[.int .i64 a.op, .int .i64 a.num, c]] w fun e w' => ∃ (t : Tr) (ct : Value) (l : List Cd) (v : Value), e = .returned (.tuple #[.agg #[.int .i64 t.op, .int .i64 t.num, ct], v, .bool true]) ∧ Unw w a c t ct l ∧ ¬ (t.op = 4 ∧ t.kids.length = 2) ∧ CdRow w' w.heap.size l.reverse v ∧ Below w.heap.size w w' := by
  have HK : Hid (InP w a.kids c) := hk
  have HA : Hid (I64 a.op ∧ I64 a.num) := ha
  have hmm := @run_makeMap Try.prog
  obtain ⟨ad, cap, rfl, -, -, -⟩ := hk
  clear ha
  go_enter Try.func107, Try.ntmps107
  go_wp2_with fail
  clear hmm
  obtain ⟨iE, zE, hiE, hzE, hsE, hbE, hcE⟩ := infoE3
  have HE : Hid (Try.prog.info? 31 = some iE ∧ iE.zero = some zE ∧ iE.size = 3 ∧ iE.bytes = 40 ∧ zE.cells.size = 3) := ⟨hiE, hzE, hsE, hbE, hcE⟩
  clear hiE hzE hsE hbE hcE
  go_loopw [5] (fun v wr => URel w a (.slice ad a.kids.length cap) v wr) (fun v _ => szT a - slLen v)
  case atStart =>
    refine ⟨a, _, [], fun _ => none, Unw.here, ?_, ?_, ?_, ?_, rfl, ?_⟩
    · exact ((World.rowIs_alloc w #[.int .i64 a.op, .int .i64 a.num, .slice ad a.kids.length cap] 31 (boxF a.op a.num (.slice ad a.kids.length cap)) (box3 _ _ _)).alloc _).alloc _
    · have h := World.rowIs_alloc (w.alloc (.cells #[.int .i64 a.op, .int .i64 a.num, .slice ad a.kids.length cap] 31)) #[.int .i64 0, .int .i64 0, .slice none 0 0] 31 (boxF 0 0 (.slice none 0 0)) (box3 _ _ _)
      rw [Deep.nblk_alloc] at h
      exact h.alloc _
    · have h := PMap.made (emb := embP) ((w.alloc (.cells #[.int .i64 a.op, .int .i64 a.num, .slice ad a.kids.length cap] 31)).alloc (.cells #[.int .i64 0, .int .i64 0, .slice none 0 0] 31)) (fun x => ∃ s, LiesAt w (Pl w) x s ∧ szT a ≤ szT s)
      rw [Deep.nblk_alloc, Deep.nblk_alloc] at h
      exact h
    · exact World.ownsRow_nil _ _ _ _
    · exact (((Below.refl _ _).alloc (Nat.le_refl _) _).alloc (by simp) _).alloc (by simp; omega) _
  case round =>
    obtain ⟨t, ct, l, M, hu, hbox, hres, hmap, hown, hsl, hb⟩ := hrel
    have HRs : Hid (wr.rowIs (w.heap.size + 1) 31 3 (boxF 0 0 (.slice none 0 0))) := hres
    have HU : Hid (Unw w a (.slice ad a.kids.length cap) t ct l) := hu
    have HBx : Hid (wr.rowIs w.heap.size 31 3 (boxF t.op t.num ct)) := hbox
    have HB : Hid (Below w.heap.size w wr) := hb
    have HMp : Hid (PMap embP wr (w.heap.size + 2) (fun x => ∃ s, LiesAt w (Pl w) x s ∧ szT t ≤ szT s) M) := hmap
    have HO : Hid (wr.ownsRow (w.heap.size + 3) 31 3 u5 l.length (cdCells l)) := hown
    obtain ⟨hkt, hot, hnt, hlt, hsz⟩ := hu.on HK.out HA.out
    have c0 := hbox.cell (i := 0) (by omega)
    have c1 := hbox.cell (i := 1) (by omega)
    have c2 := hbox.cell (i := 2) (by omega)
    simp only [boxF, if_pos, if_neg, show (1 : Nat) ≠ 0 from by omega, show (2 : Nat) ≠ 0 from by omega, show (2 : Nat) ≠ 1 from by omega] at c0 c1 c2
    have fz := hbox.frozen
    clear hu hbox hb hmap hown hres
    obtain ⟨act, capt, rfl, hl1, hl2, -⟩ := id hkt
    unfold maxLen at hl2
    by_cases ho : t.op = 4
    · by_cases hlen : t.kids.length = 2
      · obtain ⟨f, x, hkk⟩ : ∃ f x, t.kids = [f, x] := by
          match hks : t.kids, hlen with
          | [f, x], _ => exact ⟨f, x, rfl⟩
        have HT : Hid (t.op = 4 ∧ t.kids = [f, x]) := ⟨ho, hkk⟩
        rw [hkk] at hkt
        obtain ⟨bl, off, cap', p, q, cf, u, v, r, e, -, -, hS, hrow, h0, h1, h2, h3, g0, g1, g2, g3⟩ := hkt.two
        simp only [Value.slice.injEq] at e
        obtain ⟨rfl, -, rfl⟩ := e
        obtain ⟨rfl, rfl, hfo, hfn, hkf⟩ := trOn_iff.1 h3
        obtain ⟨rfl, rfl, hxo, hxn, hkx⟩ := trOn_iff.1 g3
        obtain ⟨adf, capf, rfl, -, -, -⟩ := id hkf
        obtain ⟨adx, capx, rfl, -, -, -⟩ := id hkx
        have b0 := (HB.out.cell (p := ⟨bl, off, none⟩) hS.1).trans h0
        have b1 := (HB.out.cell (p := ⟨bl, off + 1, none⟩) hS.1).trans h1
        have b2 := (HB.out.cell (p := ⟨bl, off + 2, none⟩) hS.1).trans h2
        have b3 := (HB.out.cell (p := ⟨bl, off + 3, none⟩) hS.1).trans g0
        have b4 := (HB.out.cell (p := ⟨bl, off + 4, none⟩) hS.1).trans g1
        have b5 := (HB.out.cell (p := ⟨bl, off + 5, none⟩) hS.1).trans g2
        have HBx2 : Hid (wr.rowIs w.heap.size 31 3 (boxF t.op t.num (.slice (some ⟨bl, off, none⟩) 2 capt))) := by have := HBx.out; rw [hlen] at this; exact this
        rw [ho] at c0
        rw [hlen] at c2
        have hNf : LiesAt w (Pl w) ⟨bl, off, none⟩ f := by simpa using RowOn.liesAt (i := 0) (by simp) hS hrow
        have hpl : PlainAt wr ⟨bl, off, none⟩ := hNf.plain HB.out
        have hMn : M ⟨bl, off, none⟩ = none := by
          cases hM : M ⟨bl, off, none⟩ with
          | none => rfl
          | some y =>
            obtain ⟨s, hs, hle⟩ := HMp.out.key_of hM
            have := hs.uniq hNf
            subst this
            have e1 : szT t = szL [s, x] := by rw [szT_eq, hkk]
            simp only [szL] at e1
            omega
        have hft : szT f ≤ szT t := by
          have e1 : szT t = szL [f, x] := by rw [szT_eq, hkk]
          simp only [szL] at e1
          omega
        have HMp' : Hid (PMap embP wr (w.heap.size + 2) (fun x => ∃ s, LiesAt w (Pl w) x s ∧ szT f ≤ szT s) M) := HMp.out.keys fun y hy => by obtain ⟨s, hs, hle⟩ := hy; exact ⟨s, hs, by omega⟩
        have HN : Hid (Unw w a (.slice ad a.kids.length cap) f (.slice adf f.kids.length capf) (l ++ [(x, .int .i64 x.op, .int .i64 x.num, .slice adx x.kids.length capx)])) := by
          have h := HU.out
          rw [hlen] at h
          exact Unw.down h ho hkk rfl h2 g0 g1 g2
        have hsn := (HN.out.on HK.out HA.out).2.2.2.2
        simp only [List.length_append, List.length_cons, List.length_nil] at hsn
        clear hkt hrow h0 h1 h2 h3 g0 g1 g2 g3 ho hlen hkk
        have h1c : ∀ u ∈ [Value.int .i64 x.op, .int .i64 x.num, .slice adx x.kids.length capx], u.oneCell' = true := by
          intro u hu
          simp only [List.mem_cons, List.not_mem_nil, or_false] at hu
          rcases hu with rfl | rfl | rfl <;> rfl
        go_wp2_with (first
          | (at_lookup; refine wpList_look_p _ rfl _ _ 163 rfl 164 4 ptrK Try.underlying163 (.bool false) (zeroBool _) (w.heap.size + 2) _ M rfl HMp.out (fun y hy => by obtain ⟨s, hs, _⟩ := hy; exact hs.plain HB.out) ⟨bl, off, none⟩ rfl hpl ?_; rw [hMn])
          | (at_mapUpdate; refine wpList_store_p _ rfl _ _ _ 163 rfl 164 4 ptrK Try.underlying163 (w.heap.size + 2) _ M rfl HMp'.out (fun y hy => by obtain ⟨s, hs, _⟩ := hy; exact hs.plain HB.out) ⟨bl, off, none⟩ rfl hpl ⟨f, hNf, Nat.le_refl _⟩ (.bool true) rfl ?_; intro o' hp; obtain ⟨w1, hw1⟩ : ∃ w1, w1 = ({ wr with heap := wr.heap.setIfInBounds (w.heap.size + 2) o' } : World) := ⟨_, rfl⟩; rw [← hw1] at hp ⊢; have hX : ∀ k, k ≠ w.heap.size + 2 → w1.heap[k]? = wr.heap[k]? := (by intro k hk; rw [hw1]; exact set_other_block wr _ o' hk); have HZ1 : Hid (w1.heap.size = wr.heap.size) := (by rw [hw1]; exact set_size wr _ o'); have HP : Hid (PMap embP w1 (w.heap.size + 2) (fun x => ∃ s, LiesAt w (Pl w) x s ∧ szT f ≤ szT s) (pput M ⟨bl, off, none⟩ (.bool true))) := hp; have HB1 : Hid (Below w.heap.size w w1) := (by rw [hw1]; exact HB.out.trans (set_below wr _ o' (by omega))); have c2' := (World.cell?_of_block (a := ⟨w.heap.size, 2, none⟩) (hX _ (by show w.heap.size ≠ _; omega))).trans c2; have b0' := (World.cell?_of_block (a := ⟨bl, off, none⟩) (hX _ (by have := hS.1; show bl ≠ _; omega))).trans b0; have b1' := (World.cell?_of_block (a := ⟨bl, off + 1, none⟩) (hX _ (by have := hS.1; show bl ≠ _; omega))).trans b1; have b2' := (World.cell?_of_block (a := ⟨bl, off + 2, none⟩) (hX _ (by have := hS.1; show bl ≠ _; omega))).trans b2; have b3' := (World.cell?_of_block (a := ⟨bl, off + 3, none⟩) (hX _ (by have := hS.1; show bl ≠ _; omega))).trans b3; have b4' := (World.cell?_of_block (a := ⟨bl, off + 4, none⟩) (hX _ (by have := hS.1; show bl ≠ _; omega))).trans b4; have b5' := (World.cell?_of_block (a := ⟨bl, off + 5, none⟩) (hX _ (by have := hS.1; show bl ≠ _; omega))).trans b5; have HO1 : Hid (w1.ownsRow (w.heap.size + 3) 31 3 u5 l.length (cdCells l)) := own_keep HO.out (fun k hk _ => hX k (by omega)); have HRs1 : Hid (w1.rowIs (w.heap.size + 1) 31 3 (boxF 0 0 (.slice none 0 0))) := HRs.out.of_block (hX _ (by omega)); have HX1 : Hid (w1.rowIs w.heap.size 31 3 (boxF t.op t.num (.slice (some ⟨bl, off, none⟩) 2 capt))) := HBx2.out.of_block (hX _ (by omega)); clear hX hw1 hp c0 c1 c2 b0 b1 b2 b3 b4 b5 fz)
          | (at_builtin; refine wpList_append_own _ rfl _ _ 29 rfl (w.heap.size + 3) 31 iE zE 3 40 Try.underlying29 HE.out.1 HE.out.2.1 HE.out.2.2.1 HE.out.2.2.2.1 HE.out.2.2.2.2 (by decide) _ _ _ rfl (own_keep HO1.out (fun k _ hk => Deep.blk_alloc_lt _ _ k hk)) ⟨w1.heap.size, 0, none⟩ 1 1 [.int .i64 x.op, .int .i64 x.num, .slice adx x.kids.length capx] rfl rfl (news3 w1 _ _ _) h1c (by unfold maxLen; omega) (by omega) (by rw [Deep.nblk_alloc]; have := HP.out.lt; omega) ?_; intro v' w3 hown' hgrow hnil; have hXX : ∀ k, k < w.heap.size + 3 → w3.heap[k]? = w1.heap[k]? := (fun k hk => (hgrow.block k (by rw [Deep.nblk_alloc]; have := HP.out.lt; omega) (fun e => by have := own_block HO1.out e; omega)).trans (Deep.blk_alloc_lt _ _ k (by have := HP.out.lt; omega))); have HO3 : Hid (w3.ownsRow (w.heap.size + 3) 31 3 v' (l.length + 1) (cdCells l ++ [.int .i64 x.op, .int .i64 x.num, .slice adx x.kids.length capx])) := hown'; have HRs3 : Hid (w3.rowIs (w.heap.size + 1) 31 3 (boxF 0 0 (.slice none 0 0))) := HRs1.out.of_block (hXX _ (by omega)); have HX3 : Hid (w3.rowIs w.heap.size 31 3 (boxF t.op t.num (.slice (some ⟨bl, off, none⟩) 2 capt))) := HX1.out.of_block (hXX _ (by omega)); have HP3 : Hid (PMap embP w3 (w.heap.size + 2) (fun x => ∃ s, LiesAt w (Pl w) x s ∧ szT f ≤ szT s) (pput M ⟨bl, off, none⟩ (.bool true))) := HP.out.keep (hXX _ (by omega)); have HB3 : Hid (Below w.heap.size w w3) := (by have hb1 := HB1.out; exact ⟨by rw [hgrow.os]; exact hb1.os, by rw [hgrow.tape]; exact hb1.tape, by rw [hgrow.output]; exact hb1.output, Nat.le_trans hb1.size (by have := hgrow.size; rw [Deep.nblk_alloc] at this; omega), fun k hk => (hXX k (by omega)).trans (hb1.block k hk)⟩); have d0 := (World.cell?_of_block (a := ⟨bl, off, none⟩) (hXX _ (by have := hS.1; show bl < _; omega))).trans b0'; have d1 := (World.cell?_of_block (a := ⟨bl, off + 1, none⟩) (hXX _ (by have := hS.1; show bl < _; omega))).trans b1'; have d2 := (World.cell?_of_block (a := ⟨bl, off + 2, none⟩) (hXX _ (by have := hS.1; show bl < _; omega))).trans b2'; have e0 := HX3.out.cell (i := 0) (by omega); have e1 := HX3.out.cell (i := 1) (by omega); have e2 := HX3.out.cell (i := 2) (by omega); simp only [boxF, if_pos, if_neg, show (1 : Nat) ≠ 0 from by omega, show (2 : Nat) ≠ 0 from by omega, show (2 : Nat) ≠ 1 from by omega] at e0 e1 e2; have ef := HX3.out.frozen; have hsz3 : Hid (w.heap.size + 3 ≤ w3.heap.size) := (by have := HP3.out.lt; unfold Hid; omega); clear hXX hown' hgrow hnil c2' b0' b1' b2' b3' b4' b5')
          | go_in)
        have keep : ∀ k, k ≠ w.heap.size → (((w3.setCell ⟨w.heap.size, 0, none⟩ (.int .i64 f.op)).setCell ⟨w.heap.size, 1, none⟩ (.int .i64 f.num)).setCell ⟨w.heap.size, 2, none⟩ (.slice adf f.kids.length capf)).heap[k]? = w3.heap[k]? := fun k hk =>
          ((Below.heap_setCell _ _ _ _ hk).trans (Below.heap_setCell _ _ _ _ hk)).trans (Below.heap_setCell _ _ _ _ hk)
        have hsv : slLen v' = l.length + 1 := by
          rcases HO3.out.2 with ⟨-, h⟩ | ⟨g, c, cur, rfl, -⟩
          · omega
          · rfl
        refine ⟨⟨f, _, _, _, HN.out, ?_, HRs3.out.of_block (keep _ (by omega)), HP3.out.keep (keep _ (by omega)), ?_, ?_, ?_⟩, by omega⟩
        · refine (((HX3.out.set 0 _).set 1 _).set 2 _).congr fun i hi => ?_
          rcases (by omega : i = 0 ∨ i = 1 ∨ i = 2) with rfl | rfl | rfl <;> simp [boxF]
        · have h := own_keep HO3.out (fun k hk _ => keep k (by omega))
          simpa [cdCells] using h
        · simpa using hsv
        · exact ((HB3.out.setCell (by simp) _).setCell (by simp) _).setCell (by simp) _
      · have hstop : Hid (¬ (t.op = 4 ∧ t.kids.length = 2)) := fun h => hlen h.2
        have t2 : ((t.kids.length : Int) == 2) = false := by simp; omega
        rw [ho] at c0
        have hlr : ∀ d ∈ l, ∃ p q ad n c, d.2.1 = .int .i64 p ∧ d.2.2.1 = .int .i64 q ∧ d.2.2.2 = .slice ad n c := fun d hd => by
          obtain ⟨e1, e2, -, -, ad', c', e3, -⟩ := trOn_iff.1 (hlt d hd)
          exact ⟨_, _, _, _, _, e1, e2, e3⟩
        have hlo : w.heap.size + 3 ≤ wr.heap.size := by have := HMp.out.lt; omega
        go_wp2_with (go_at_call 115; refine (rev_cd (w.heap.size + 3) l u5 _ ?_ hlr ?_).mono ?_; exact own_cd HO.out; exact hlo; rintro e w4 ⟨rfl, hcd, hb4⟩; have HCD : Hid (CdRow w4 (w.heap.size + 3) l.reverse u5) := hcd; have HB4 : Hid (Below w.heap.size w w4) := HB.out.trans (hb4.mono (by omega)); have hn4 : w.heap.size + 3 ≤ w4.heap.size := (by have := hb4.size; omega); have d0 := (hb4.cell (p := ⟨w.heap.size, 0, none⟩) (by show w.heap.size < _; omega)).trans c0; have d1 := (hb4.cell (p := ⟨w.heap.size, 1, none⟩) (by show w.heap.size < _; omega)).trans c1; have d2 := (hb4.cell (p := ⟨w.heap.size, 2, none⟩) (by show w.heap.size < _; omega)).trans c2; have HR4 : Hid (w4.rowIs (w.heap.size + 1) 31 3 (boxF 0 0 (.slice none 0 0))) := HRs.out.of_block (hb4.block _ (by omega)); have r0 := HR4.out.cell (i := 0) (by omega); have r1 := HR4.out.cell (i := 1) (by omega); have r2 := HR4.out.cell (i := 2) (by omega); simp only [boxF, if_pos, if_neg, show (1 : Nat) ≠ 0 from by omega, show (2 : Nat) ≠ 0 from by omega, show (2 : Nat) ≠ 1 from by omega] at r0 r1 r2; have rf := HR4.out.frozen; clear hcd hb4 c0 c1 c2 fz)
        refine bodyPost_ret (v := .tuple #[.agg #[.int .i64 4, .int .i64 t.num, .slice act t.kids.length capt], u5, .bool true]) (by simp [results, Try.results107, go_sem, r0, r1, r2, rf]) rfl ⟨t, _, l, u5, by rw [ho], HU.out, hstop.out, ?_, ?_⟩
        · exact HCD.out.keep (by omega) fun k hk _ => ((Below.heap_setCell _ _ _ _ (by show k ≠ w.heap.size + 1; omega)).trans (Below.heap_setCell _ _ _ _ (by show k ≠ w.heap.size + 1; omega))).trans (Below.heap_setCell _ _ _ _ (by show k ≠ w.heap.size + 1; omega))
        · exact ((HB4.out.setCell (by simp) _).setCell (by simp) _).setCell (by simp) _
    · have hstop : Hid (¬ (t.op = 4 ∧ t.kids.length = 2)) := fun h => ho h.1
      have t1 : (t.op == 4) = false := by simpa using ho
      have hlr : ∀ d ∈ l, ∃ p q ad n c, d.2.1 = .int .i64 p ∧ d.2.2.1 = .int .i64 q ∧ d.2.2.2 = .slice ad n c := fun d hd => by
        obtain ⟨e1, e2, -, -, ad', c', e3, -⟩ := trOn_iff.1 (hlt d hd)
        exact ⟨_, _, _, _, _, e1, e2, e3⟩
      have hlo : w.heap.size + 3 ≤ wr.heap.size := by have := HMp.out.lt; omega
      go_wp2_with (go_at_call 115; refine (rev_cd (w.heap.size + 3) l u5 _ ?_ hlr ?_).mono ?_; exact own_cd HO.out; exact hlo; rintro e w4 ⟨rfl, hcd, hb4⟩; have HCD : Hid (CdRow w4 (w.heap.size + 3) l.reverse u5) := hcd; have HB4 : Hid (Below w.heap.size w w4) := HB.out.trans (hb4.mono (by omega)); have hn4 : w.heap.size + 3 ≤ w4.heap.size := (by have := hb4.size; omega); have d0 := (hb4.cell (p := ⟨w.heap.size, 0, none⟩) (by show w.heap.size < _; omega)).trans c0; have d1 := (hb4.cell (p := ⟨w.heap.size, 1, none⟩) (by show w.heap.size < _; omega)).trans c1; have d2 := (hb4.cell (p := ⟨w.heap.size, 2, none⟩) (by show w.heap.size < _; omega)).trans c2; have HR4 : Hid (w4.rowIs (w.heap.size + 1) 31 3 (boxF 0 0 (.slice none 0 0))) := HRs.out.of_block (hb4.block _ (by omega)); have r0 := HR4.out.cell (i := 0) (by omega); have r1 := HR4.out.cell (i := 1) (by omega); have r2 := HR4.out.cell (i := 2) (by omega); simp only [boxF, if_pos, if_neg, show (1 : Nat) ≠ 0 from by omega, show (2 : Nat) ≠ 0 from by omega, show (2 : Nat) ≠ 1 from by omega] at r0 r1 r2; have rf := HR4.out.frozen; clear hcd hb4 c0 c1 c2 fz)
      refine bodyPost_ret (v := .tuple #[.agg #[.int .i64 t.op, .int .i64 t.num, .slice act t.kids.length capt], u5, .bool true]) (by simp [results, Try.results107, go_sem, r0, r1, r2, rf]) rfl ⟨t, _, l, u5, rfl, HU.out, hstop.out, ?_, ?_⟩
      · exact HCD.out.keep (by omega) fun k hk _ => ((Below.heap_setCell _ _ _ _ (by show k ≠ w.heap.size + 1; omega)).trans (Below.heap_setCell _ _ _ _ (by show k ≠ w.heap.size + 1; omega))).trans (Below.heap_setCell _ _ _ _ (by show k ≠ w.heap.size + 1; omega))
      · exact ((HB4.out.setCell (by simp) _).setCell (by simp) _).setCell (by simp) _
end Go.Proofs.Ytpkephkgaflklaa
/-
  THE PROGRAM's isValue: which closed expressions are values; nothing that was there is changed.
-/
namespace Go.Proofs.Ytpkephkgaflklaa
set_option linter.unusedVariables false
set_option linter.unusedSimpArgs false
open Go.RowKit

/-- the arity of a function of a program -/
def arityAt (ds : List Df) (n : Int) : Int := ((ds.map (·.1))[n.toNat]?).getD 0
/-- is a closed expression a value? -/
def valueB (ds : List Df) (t : Tr) : Bool := decide (t.op = 2) || (decide (t.op = 5) || (decide ((unwT t []).1.op = 3) && decide (((unwT t []).2.length : Int) < arityAt ds (unwT t []).1.num)))
/-- closed for so many functions, down to some depth -/
def Closed (ds : List Df) (t : Tr) : Prop := ∃ d, shB 0 ds.length d t = true

theorem closed_of_valid {ds : List Df} {t : Tr} (h : validB t 0 ds.length = true) : Closed ds t := by
  unfold validB at h
  simp only [Bool.and_eq_true] at h
  exact ⟨16, h.2.1⟩
theorem Closed.kid {ds : List Df} {t : Tr} (h : Closed ds t) {k : Tr} (hk : k ∈ t.kids) : Closed ds k := by
  obtain ⟨d, h⟩ := h
  cases d with
  | zero => simp [shB] at h
  | succ d =>
    unfold shB at h
    simp only [Bool.and_eq_true, List.all_eq_true] at h
    exact ⟨d, h.2 k hk⟩
theorem Closed.fun {ds : List Df} {t : Tr} (h : Closed ds t) (ho : t.op = 3) : 0 ≤ t.num ∧ t.num < ds.length := by
  obtain ⟨d, h⟩ := h
  cases d with
  | zero => simp [shB] at h
  | succ d =>
    unfold shB at h
    simp only [Bool.and_eq_true] at h
    have h2 := h.1.2
    unfold ownB at h2
    rw [if_neg (by omega), if_neg (by omega), if_pos ho] at h2
    simpa using h2
theorem Unw.closed {w : World} {a t : Tr} {c ct : Value} {l : List Cd} (h : Unw w a c t ct l) {ds : List Df} (ha : Closed ds a) : Closed ds t := by
  induction h with
  | here => exact ha
  | down h ho hk _ _ _ _ _ ih => exact ih.kid (by rw [hk]; simp)
theorem Unw.value {w : World} {a t : Tr} {c ct : Value} {l : List Cd} (h : Unw w a c t ct l) (hs : ¬ (t.op = 4 ∧ t.kids.length = 2)) : unwT a [] = (t, (l.map (·.1)).reverse) := by
  rw [h.unw, unwT_stop hs]

theorem unwT_closed (ds : List Df) : ∀ (n : Nat) (t : Tr) (acc : List Tr), szT t ≤ n → Closed ds t → Closed ds (unwT t acc).1 := by
  intro n
  induction n with
  | zero =>
    intro t acc hz hc
    rw [unwT_stop]
    · exact hc
    · rintro ⟨-, hl⟩
      rw [szT_eq, szL_sum] at hz
      omega
  | succ n ih =>
    intro t acc hz hc
    by_cases h : t.op = 4 ∧ t.kids.length = 2
    · obtain ⟨f, x, hk⟩ : ∃ f x, t.kids = [f, x] := by
        match hks : t.kids, h.2 with
        | [f, x], _ => exact ⟨f, x, rfl⟩
      rw [unwT_app h.1 hk]
      refine ih f _ ?_ (hc.kid (by rw [hk]; simp))
      rw [szT_eq, hk] at hz
      simp only [szL] at hz
      omega
    · rw [unwT_stop h]; exact hc
theorem CdRow.form {w : World} {lo : Nat} {l : List Cd} {v : Value} (h : CdRow w lo l v) : ∃ ad cap, v = .slice ad l.length cap := by
  rcases h with ⟨rfl, rfl⟩ | ⟨g, cap, f, rfl, -⟩
  · exact ⟨_, _, rfl⟩
  · exact ⟨_, _, rfl⟩

/-- a valid program and a closed expression -/
def closedB (ds : List Df) (t : Tr) : Bool := progB ds && validB t 0 ds.length
/-- .. that is a value -/
def headB (ds : List Df) (t : Tr) : Bool := closedB ds t && valueB ds t

end Go.Proofs.Ytpkephkgaflklaa
