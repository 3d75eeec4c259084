/-
  THE WALK OF FnExactRedexOf.
-/
import Derived.Test.YthlblgibgfledaaDoorSpecRx
import Derived.Test.YthlblgibgfledaaDoorImplRx
import Derived.Test.YthlblgibgfledaaDoorDefs
import Derived.Test.YthlblgibgfledaaDoorCells
import Derived.Deep.RegionHeld3
namespace Go.Proofs.YthlblgibgfledaaDoor.lawExactRedexOf
open Go.RowKit
set_option linter.unusedVariables false
set_option linter.unusedSimpArgs false

theorem szC_le {g : List Ce} {left : Int} (h : ¬ szC g left < 0) : (g.length : Int) + sumK g ≤ left := by unfold szC at h; split at h <;> omega
set_option maxRecDepth 100000 in
set_option maxHeartbeats 3200000 in
theorem walk (ds : List Df) (cp : Value) (g : List Ce) (c : Value) (root : Int) (w : World) (hd : DIn w ds cp) (hk : CIn w g c) (hi : I64 root) (aF aS aL : Addr) (hE : Errs aF aS aL w) :
    Calls Tryd.prog 3 #[cp, c, .int .i64 root] w fun e w' => e = .returned (.bool true) ∧ Below w.heap.size w w' := by
  have HD : Hid (DIn w ds cp) := hd
  have HK : Hid (CIn w g c) := hk
  have hrg := szOut_range (bodies ds) 1048576 (by omega)
  obtain ⟨ri, hri⟩ : ∃ ri, ri = rxI ds g root := ⟨_, rfl⟩
  obtain ⟨rc, hrc⟩ : ∃ rc, rc = rxC ds g root := ⟨_, rfl⟩
  have HE := mkHid hE
  have HSS : Hid (∀ (u v : Value) (W : World), Below w.heap.size w W → DIn W ds u → CIn W g v → Calls Tryd.prog 11 #[u, v, .int .i64 root] W fun en w' => en = .returned (.tuple #[.int .i64 ri, .int .i64 rc]) ∧ Below W.heap.size W w') := fun u v W hbW h1 h2 => by rw [hri, hrc]; exact specRx_calls ds g root u v W h1 h2
  have HSI : Hid (∀ (u v : Value) (W : World), Below w.heap.size w W → DIn W ds u → CIn W g v → Calls Tryd.prog 14 #[u, v, .int .i64 root] W fun en w' => en = .returned (.tuple #[.int .i64 ri, .int .i64 rc]) ∧ Below W.heap.size W w') := fun u v W hbW h1 h2 => by rw [hri, hrc]; exact implRx_calls aF aS aL ds g root u v W (HE.out.next hbW) h1 h2
  have tri : (ri != ri) = false := by simp
  have trc : (rc != rc) = false := by simp
  clear hd hk hi hri hrc hE
  go_enter Tryd.func3, Tryd.ntmps3
  go_wp2_with fail
  refine (szDefS_calls ds cp _ _ HD.out (by omega) (by omega)).mono ?_
  rintro e w1 ⟨rfl, hb1⟩
  have HB1 : Hid (Below w.heap.size w w1) := hb1
  clear hb1
  by_cases hneg : szOut (bodies ds) 1048576 < 0
  · go_wp2_with fail
    go_ret
    exact ⟨rfl, HB1.out⟩
  have HZ : Hid (szL (bodies ds) ≤ 1048576) := by unfold szOut at hneg; unfold Hid; split at hneg <;> omega
  generalize szOut (bodies ds) 1048576 = left0 at *
  have hrg2 := szC_range g left0 (by omega)
  go_wp2_with fail
  refine (szCells_calls g c _ _ (HK.out.next HB1.out) (by omega) (by omega)).mono ?_
  rintro e w2 ⟨rfl, hb2⟩
  have HB2 : Hid (Below w.heap.size w w2) := HB1.out.trans (hb2.mono HB1.out.size)
  clear hb2
  by_cases hneg2 : szC g left0 < 0
  · go_wp2_with fail
    go_ret
    exact ⟨rfl, HB2.out⟩
  have HZG : Hid (g.length + sumK g ≤ 1048576) := by have := szC_le hneg2; unfold Hid; omega
  generalize szC g left0 = left at *
  clear hrg hrg2
  go_wp2_with fail
  -- the model's answer
  refine (toDefS_calls ds cp w2 (HD.out.next HB2.out) HZ.out).mono ?_
  rintro en w3 ⟨v3, rfl, hv3, hb3⟩
  have HB3 : Hid (Below w.heap.size w w3) := HB2.out.trans (hb3.mono HB2.out.size)
  have HV3 : Hid (DIn w3 ds v3) := hv3.btw_in
  clear hv3 hb3
  go_wp2_with fail
  refine (toCells_calls g c w3 (HK.out.next HB3.out) HZG.out).mono ?_
  rintro en w4 ⟨v4, rfl, hv4, hb4⟩
  have HB4 : Hid (Below w.heap.size w w4) := HB3.out.trans (hb4.mono HB3.out.size)
  have HV4 : Hid (CIn w4 g v4) := hv4.inn
  have HV3b : Hid (DIn w4 ds v3) := HV3.out.next hb4
  clear hv4 hb4
  go_wp2_with fail
  refine (HSS.out v3 v4 w4 HB4.out HV3b.out HV4.out).mono ?_
  rintro en w5 ⟨rfl, hb5⟩
  have HB5 : Hid (Below w.heap.size w w5) := HB4.out.trans (hb5.mono HB4.out.size)
  clear hb5
  clear HV3 HV4 HV3b HB3 HB4
  go_wp2_with fail
  refine (toDefS_calls ds cp _ (HD.out.next HB5.out) HZ.out).mono ?_
  rintro e w6 ⟨v6, rfl, hv6, hb6⟩
  have HV6 : Hid (DIn w6 ds v6) := hv6.btw_in
  have HB6 : Hid (Below w.heap.size w w6) := HB5.out.trans (hb6.mono HB5.out.size)
  clear hv6 hb6
  go_wp2_with fail
  refine (toCells_calls g c _ (HK.out.next HB6.out) HZG.out).mono ?_
  rintro e w7 ⟨v7, rfl, hv7, hb7⟩
  have HV7 : Hid (CIn w7 g v7) := hv7.inn
  have HD7 : Hid (DIn w7 ds v6) := HV6.out.next hb7
  have HB7 : Hid (Below w.heap.size w w7) := HB6.out.trans (hb7.mono HB6.out.size)
  clear hv7 hb7
  go_wp2_with fail
  refine (HSI.out v6 v7 _ HB7.out HD7.out HV7.out).mono ?_
  rintro e w8 ⟨rfl, hb8⟩
  have HV8 : Hid (CIn w8 g v7) := HV7.out.next hb8
  have HD8 : Hid (DIn w8 ds v6) := HD7.out.next hb8
  have HB8 : Hid (Below w.heap.size w w8) := HB7.out.trans (hb8.mono HB7.out.size)
  clear hb8
  go_wp2_with fail
  refine (toDefS_calls ds cp _ (HD.out.next HB8.out) HZ.out).mono ?_
  rintro e w9 ⟨v9, rfl, hv9, hb9⟩
  have HV9 : Hid (DIn w9 ds v9) := hv9.btw_in
  have HV9b : Hid (CIn w9 g v7) := HV8.out.next hb9
  have HD9 : Hid (DIn w9 ds v6) := HD8.out.next hb9
  have HB9 : Hid (Below w.heap.size w w9) := HB8.out.trans (hb9.mono HB8.out.size)
  clear hv9 hb9
  go_wp2_with fail
  refine (eqDefS_calls ds v6 v9 _ HD9.out HV9.out).mono ?_
  rintro e w10 ⟨rfl, hb10⟩
  have HV10 : Hid (CIn w10 g v7) := HV9b.out.next hb10
  have HB10 : Hid (Below w.heap.size w w10) := HB9.out.trans (hb10.mono HB9.out.size)
  clear hb10
  go_wp2_with fail
  refine (toCells_calls g c _ (HK.out.next HB10.out) HZG.out).mono ?_
  rintro e w11 ⟨v11, rfl, hv11, hb11⟩
  have HV11 : Hid (CIn w11 g v11) := hv11.inn
  have HV11b : Hid (CIn w11 g v7) := HV10.out.next hb11
  have HB11 : Hid (Below w.heap.size w w11) := HB10.out.trans (hb11.mono HB10.out.size)
  clear hv11 hb11
  go_wp2_with fail
  refine (eqCells_calls g v7 v11 _ HV11b.out HV11.out).mono ?_
  rintro e w12 ⟨rfl, hb12⟩
  have HB12 : Hid (Below w.heap.size w w12) := HB11.out.trans (hb12.mono HB11.out.size)
  clear hb12
  go_wp2_with fail
  go_ret
  exact ⟨rfl, HB12.out⟩
end Go.Proofs.YthlblgibgfledaaDoor.lawExactRedexOf
