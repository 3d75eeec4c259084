/-
  THE WALK OF FnExactStrictArgs.
-/
import Derived.Test.YtocnkjicmchbdaaSpecSg
import Derived.Test.YtocnkjicmchbdaaImplSg
import Derived.Test.YtocnkjicmchbdaaMarkN
import Derived.Test.YtocnkjicmchbdaaMarkD
import Derived.Test.YtocnkjicmchbdaaDefsF
import Derived.Test.YtocnkjicmchbdaaSz
import Derived.Test.YtocnkjicmchbdaaEq
import Derived.Test.YtocnkjicmchbdaaSmallN
namespace Go.Proofs.Ytocnkjicmchbdaa.lawExactStrictArgs
open Go.ChangeShapes Go.WideShapes Go.ChangeAt Go.RowKit
set_option linter.unusedVariables false
set_option linter.unusedSimpArgs false

set_option maxRecDepth 100000 in
set_option maxHeartbeats 3200000 in
theorem walk (ds : List Df) (c : Value) (w : World) (hk : DIn w ds c) :
    Calls Try.prog 4 #[c] w fun e w' => e = .returned (.bool true) ∧ Below w.heap.size w w' := by
  have HK : Hid (DIn w ds c) := hk
  obtain ⟨G, hG⟩ : ∃ G, G = strictA ds := ⟨_, rfl⟩
  have HGS : Hid (G.length ≤ 6 ∧ (G.map (·.length)).sum ≤ 24) := by rw [hG]; exact strictA_small ds
  have HSS : Hid (∀ (u : Value) (W : World), szL (bodies ds) ≤ 1048576 → DIn W ds u → Calls Try.prog 18 #[u] W (NewN G W)) := fun u W hz h => by rw [hG]; exact specStrictArgs_calls ds u W h hz
  have HSI : Hid (∀ (u : Value) (W : World), szL (bodies ds) ≤ 1048576 → DInP W ds u → Calls Try.prog 20 #[u] W (NewN G W)) := fun u W hz h => by rw [hG]; exact implStrictArgs_calls ds u W h hz
  have hrg := szOut_range (bodies ds) 1048576 (by omega)
  clear hk hG
  go_enter Try.func4, Try.ntmps4
  go_wp2_with fail
  refine (szDefS_calls ds c _ w HK.out (by omega) (by omega)).mono ?_
  rintro en w1 ⟨rfl, hb⟩
  have HB1 : Hid (Below w.heap.size w w1) := hb
  clear hb
  by_cases hneg : szOut (bodies ds) 1048576 < 0
  · go_wp2_with fail
    go_ret
    exact ⟨rfl, HB1.out⟩
  have HZ : Hid (szL (bodies ds) ≤ 1048576) := by unfold szOut at hneg; unfold Hid; split at hneg <;> omega
  generalize szOut (bodies ds) 1048576 = left at *
  clear hrg
  go_wp2_with fail
  -- the model's answer
  refine (toDefS_calls ds c w1 (HK.out.next HB1.out) HZ.out).mono ?_
  rintro en w2 ⟨s, rfl, hv, hb⟩
  have HS2 : Hid (DIn w2 ds s) := hv.btw_in
  have HB2 : Hid (Below w.heap.size w w2) := HB1.out.trans (hb.mono HB1.out.size)
  clear hv hb
  go_wp2_with fail
  refine (HSS.out s w2 HZ.out HS2.out).mono ?_
  rintro en w3 ⟨vs, rfl, hv, hb⟩
  have HB3 : Hid (Below w.heap.size w w3) := HB2.out.trans (hb.mono HB2.out.size)
  have VS3 : Hid (NeedsOn w3 (Lt w3.heap.size) G vs) := hv.nin
  obtain ⟨ads, caps, rfl, -, -⟩ := hv.form
  clear hv hb
  go_wp2_with fail
  -- the program's answer
  refine (toDefS_callsF ds c w3 (HK.out.next HB3.out) HZ.out).mono ?_
  rintro en w4 ⟨x, fD, rfl, hv, hnd, hlo, hb⟩
  have KD4 : Hid (DefsFp w4 ds fD x) := hv
  have HF : Hid (fD.Nodup ∧ (∀ k ∈ fD, w3.heap.size ≤ k) ∧ ∀ k ∈ fD, k < w4.heap.size) := ⟨hnd, hlo, hv.lt⟩
  have HB4 : Hid (Below w.heap.size w w4) := HB3.out.trans (hb.mono HB3.out.size)
  have VS4 : Hid (NeedsOn w4 (Lt w3.heap.size) G (.slice ads G.length caps)) := VS3.out.mono (fun _ h => h) fun k hk => hb.block k hk
  have L4 : Hid (w3.heap.size ≤ w4.heap.size) := hb.size
  clear hv hnd hlo hb
  go_wp2_with fail
  refine (HSI.out x w4 HZ.out (KD4.out.on KD4.out.plain)).mono ?_
  rintro en w5 ⟨vg, rfl, hv, hb⟩
  have GO5 : Hid (NOwn w5 w4.heap.size G vg) := hv
  have KD5 : Hid (DefsFp w5 ds fD x) := KD4.out.keep fun k hk => hb.block k (HF.out.2.2 k hk)
  have HB5 : Hid (Below w.heap.size w w5) := HB4.out.trans (hb.mono HB4.out.size)
  have VS5 : Hid (NeedsOn w5 (Lt w3.heap.size) G (.slice ads G.length caps)) := VS4.out.mono (fun _ h => h) fun k (hk : k < _) => hb.block k (Nat.lt_of_lt_of_le hk L4.out)
  have L5 : Hid (w4.heap.size ≤ w5.heap.size) := hb.size
  obtain ⟨adg, capg, rfl, -, -⟩ := hv.form
  clear hv hb
  go_wp2_with fail
  refine (eqNeeds_calls G _ _ w5 GO5.out.nin (VS5.out.mono (fun k (hk : k < _) => Nat.lt_of_lt_of_le (Nat.lt_of_lt_of_le hk L4.out) L5.out) fun _ _ => rfl)).mono ?_
  rintro en w6 ⟨rfl, hb⟩
  have KD6 : Hid (DefsFp w6 ds fD x) := KD5.out.keep fun k hk => hb.block k (Nat.lt_of_lt_of_le (HF.out.2.2 k hk) L5.out)
  have GO6 : Hid (NOwn w6 w4.heap.size G (.slice adg G.length capg)) := GO5.out.next hb
  have VS6 : Hid (NeedsOn w6 (Lt w3.heap.size) G (.slice ads G.length caps)) := VS5.out.mono (fun _ h => h) fun k (hk : k < _) => hb.block k (Nat.lt_of_lt_of_le (Nat.lt_of_lt_of_le hk L4.out) L5.out)
  have L6 : Hid (w4.heap.size ≤ w6.heap.size) := Nat.le_trans L5.out hb.size
  have HB6 : Hid (Below w.heap.size w w6) := HB5.out.trans (hb.mono HB5.out.size)
  clear hb
  go_wp2_with fail
  -- the argument is as it was
  refine (toDefS_calls ds c w6 (HK.out.next HB6.out) HZ.out).mono ?_
  rintro en w7 ⟨y, rfl, hv, hb⟩
  have HY7 : Hid (DIn w7 ds y) := hv.btw_in
  clear hv
  have KD7 : Hid (DefsFp w7 ds fD x) := KD6.out.keep fun k hk => hb.block k (Nat.lt_of_lt_of_le (HF.out.2.2 k hk) L6.out)
  have GO7 : Hid (NOwn w7 w4.heap.size G (.slice adg G.length capg)) := GO6.out.next hb
  have VS7 : Hid (NeedsOn w7 (Lt w3.heap.size) G (.slice ads G.length caps)) := VS6.out.mono (fun _ h => h) fun k (hk : k < _) => hb.block k (Nat.lt_of_lt_of_le (Nat.lt_of_lt_of_le hk L4.out) L6.out)
  have L7 : Hid (w4.heap.size ≤ w7.heap.size) := Nat.le_trans L6.out hb.size
  have HB7 : Hid (Below w.heap.size w w7) := HB6.out.trans (hb.mono HB6.out.size)
  clear hb
  go_wp2_with fail
  refine (eqDefS_calls ds x y w7 (DefsOn.inP (KD7.out.on KD7.out.plain)) HY7.out).mono ?_
  rintro en w8 ⟨rfl, hb⟩
  have KD8 : Hid (DefsFp w8 ds fD x) := KD7.out.keep fun k hk => hb.block k (Nat.lt_of_lt_of_le (HF.out.2.2 k hk) L7.out)
  have GO8 : Hid (NOwn w8 w4.heap.size G (.slice adg G.length capg)) := GO7.out.next hb
  have VS8 : Hid (NeedsOn w8 (Lt w3.heap.size) G (.slice ads G.length caps)) := VS7.out.mono (fun _ h => h) fun k (hk : k < _) => hb.block k (Nat.lt_of_lt_of_le (Nat.lt_of_lt_of_le hk L4.out) L7.out)
  have L8 : Hid (w4.heap.size ≤ w8.heap.size) := Nat.le_trans L7.out hb.size
  have HB8 : Hid (Below w.heap.size w w8) := HB7.out.trans (hb.mono HB7.out.size)
  clear hb
  go_wp2_with fail
  -- the argument is marked
  refine (markDefs_calls ds fD x 1 w8 KD8.out HF.out.1 (by omega) (by omega) HZ.out).mono ?_
  rintro en w9 ⟨rfl, hb⟩
  have GO9 : Hid (NOwn w9 w4.heap.size G (.slice adg G.length capg)) := GO8.out.keep fun k hk hkz => hb.block k hkz fun h => by have := HF.out.2.2 k h; omega
  have VS9 : Hid (NeedsOn w9 (Lt w3.heap.size) G (.slice ads G.length caps)) := VS8.out.mono (fun _ h => h) fun k (hk : k < _) => hb.block k (Nat.lt_of_lt_of_le (Nat.lt_of_lt_of_le hk L4.out) L8.out) fun h => by have := HF.out.2.1 k h; omega
  have L9 : Hid (w4.heap.size ≤ w9.heap.size) := Nat.le_trans L8.out hb.size
  have HB9 : Hid (Below w.heap.size w w9) := HB8.out.trans (hb.below (fun k h => by have := HF.out.2.1 k h; have := HB3.out.size; omega) HB8.out.size)
  clear hb
  have hzD := sumZ_szL ds
  obtain ⟨kD, hkD⟩ : ∃ kD : Int, kD = 1 + ((3 * ds.length + 2 * sumZ ds : Nat) : Int) := ⟨_, rfl⟩
  rw [← hkD]
  have hkD0 : 0 ≤ kD := by omega
  have hkD1 : kD ≤ 1 + 3145728 := by have := HZ.out; omega
  have hkD2 : ¬ (kD < 0) := by omega
  clear hkD hzD
  go_wp2_with fail
  refine (eqNeeds_calls G _ _ w9 GO9.out.nin (VS9.out.mono (fun k (hk : k < _) => Nat.lt_of_lt_of_le (Nat.lt_of_lt_of_le hk L4.out) L9.out) fun _ _ => rfl)).mono ?_
  rintro en w10 ⟨rfl, hb⟩
  have GO10 : Hid (NOwn w10 w4.heap.size G (.slice adg G.length capg)) := GO9.out.next hb
  have VS10 : Hid (NeedsOn w10 (Lt w3.heap.size) G (.slice ads G.length caps)) := VS9.out.mono (fun _ h => h) fun k (hk : k < _) => hb.block k (Nat.lt_of_lt_of_le (Nat.lt_of_lt_of_le hk L4.out) L9.out)
  have L10 : Hid (w4.heap.size ≤ w10.heap.size) := Nat.le_trans L9.out hb.size
  have HB10 : Hid (Below w.heap.size w w10) := HB9.out.trans (hb.mono HB9.out.size)
  clear hb
  go_wp2_with fail
  -- the answer is marked
  refine (markNeeds_calls G w4.heap.size _ 1 w10 GO10.out (by omega) (by omega) (by have := HGS.out; omega) (by have := HGS.out; omega)).mono ?_
  rintro en w11 ⟨rfl, hv, hb⟩
  obtain ⟨ns, hns⟩ : ∃ ns, ns = G.map (·.length) := ⟨_, rfl⟩
  have hnsum : ns.sum ≤ 24 := by rw [hns]; exact HGS.out.2
  rw [← hns] at hv ⊢
  have hlen : (markG ns 1).length = G.length := by rw [markG_length, hns, List.length_map]
  have GM11 : Hid (NOwn w11 w4.heap.size (markG ns 1) (.slice adg G.length capg)) := hv
  have VS11 : Hid (NeedsOn w11 (Lt w3.heap.size) G (.slice ads G.length caps)) := VS10.out.mono (fun _ h => h) fun k (hk : k < _) => hb.block k (Nat.lt_of_lt_of_le hk L4.out)
  have L11 : Hid (w4.heap.size ≤ w11.heap.size) := Nat.le_trans L10.out hb.size
  have HB11 : Hid (Below w.heap.size w w11) := HB10.out.trans (hb.mono HB4.out.size)
  have HSUM := mkHid hnsum
  clear hb hv hns hlen
  obtain ⟨m, hm⟩ : ∃ m : Int, m = 1 + (ns.sum : Nat) := ⟨_, rfl⟩
  have HM := mkHid hm
  rw [← hm]
  have hm0 : ¬ (m < 0) := by omega
  have tm : (m != m) = false := by simp
  clear hm hnsum
  go_wp2_with fail
  refine (heldNeeds_calls ns _ 1 w11 GM11.out.nin (by omega) (by omega) (by have := HSUM.out; omega)).mono ?_
  rintro en w12 ⟨rfl, hb⟩
  rw [← HM.out]
  have GM12 : Hid (NOwn w12 w4.heap.size (markG ns 1) (.slice adg G.length capg)) := GM11.out.next hb
  have VS12 : Hid (NeedsOn w12 (Lt w3.heap.size) G (.slice ads G.length caps)) := VS11.out.mono (fun _ h => h) fun k (hk : k < _) => hb.block k (Nat.lt_of_lt_of_le (Nat.lt_of_lt_of_le hk L4.out) L11.out)
  have L12 : Hid (w4.heap.size ≤ w12.heap.size) := Nat.le_trans L11.out hb.size
  have HB12 : Hid (Below w.heap.size w w12) := HB11.out.trans (hb.mono HB11.out.size)
  clear hb
  go_wp2_with fail
  -- called once more
  refine (toDefS_callsP ds c w12 (HK.out.next HB12.out) HZ.out).mono ?_
  rintro en w13 ⟨h, rfl, hv, hb⟩
  have HH13 : Hid (DInP w13 ds h) := DefsOn.plain hv
  have GM13 : Hid (NOwn w13 w4.heap.size (markG ns 1) (.slice adg G.length capg)) := GM12.out.next hb
  have VS13 : Hid (NeedsOn w13 (Lt w3.heap.size) G (.slice ads G.length caps)) := VS12.out.mono (fun _ h => h) fun k (hk : k < _) => hb.block k (Nat.lt_of_lt_of_le (Nat.lt_of_lt_of_le hk L4.out) L12.out)
  have L13 : Hid (w4.heap.size ≤ w13.heap.size) := Nat.le_trans L12.out hb.size
  have HB13 : Hid (Below w.heap.size w w13) := HB12.out.trans (hb.mono HB12.out.size)
  clear hb hv
  go_wp2_with fail
  refine (HSI.out h w13 HZ.out HH13.out).mono ?_
  rintro en w14 ⟨vh, rfl, hv, hb⟩
  have HN14 : Hid (NIn w14 G vh) := hv.nin
  have GM14 : Hid (NOwn w14 w4.heap.size (markG ns 1) (.slice adg G.length capg)) := GM13.out.next hb
  have VS14 : Hid (NeedsOn w14 (Lt w3.heap.size) G (.slice ads G.length caps)) := VS13.out.mono (fun _ h => h) fun k (hk : k < _) => hb.block k (Nat.lt_of_lt_of_le (Nat.lt_of_lt_of_le hk L4.out) L13.out)
  have L14 : Hid (w4.heap.size ≤ w14.heap.size) := Nat.le_trans L13.out hb.size
  have HB14 : Hid (Below w.heap.size w w14) := HB13.out.trans (hb.mono HB13.out.size)
  obtain ⟨adh, caph, rfl, -, -⟩ := hv.form
  clear hb hv
  go_wp2_with fail
  refine (eqNeeds_calls G _ _ w14 HN14.out (VS14.out.mono (fun k (hk : k < _) => Nat.lt_of_lt_of_le (Nat.lt_of_lt_of_le hk L4.out) L14.out) fun _ _ => rfl)).mono ?_
  rintro en w15 ⟨rfl, hb⟩
  have GM15 : Hid (NOwn w15 w4.heap.size (markG ns 1) (.slice adg G.length capg)) := GM14.out.next hb
  have HB15 : Hid (Below w.heap.size w w15) := HB14.out.trans (hb.mono HB14.out.size)
  clear hb
  go_wp2_with fail
  refine (heldNeeds_calls ns _ 1 w15 GM15.out.nin (by omega) (by omega) (by have := HSUM.out; omega)).mono ?_
  rintro en w16 ⟨rfl, hb⟩
  rw [← HM.out]
  have HB16 : Hid (Below w.heap.size w w16) := HB15.out.trans (hb.mono HB15.out.size)
  clear hb
  go_wp2_with fail
  go_ret
  exact ⟨rfl, HB16.out⟩
end Go.Proofs.Ytocnkjicmchbdaa.lawExactStrictArgs
