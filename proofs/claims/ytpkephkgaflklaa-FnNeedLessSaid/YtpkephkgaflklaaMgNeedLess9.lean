/-
  THE WALK OF FnNeedLess.
-/
import Derived.Test.YtpkephkgaflklaaMgNeedLess7
import Derived.Test.YtpkephkgaflklaaMgNeedLess8
import Derived.Test.YtpkephkgaflklaaMgNeedLess5
import Derived.Test.YtpkephkgaflklaaMgNeedLess2
namespace Go.Proofs.Ytpkephkgaflklaa.lawNeedLess
open Go.ChangeShapes Go.WideShapes Go.ChangeAt Go.RowKit
set_option linter.unusedVariables false
set_option linter.unusedSimpArgs false

/-- needs that say nothing, of the first functions -/
def noN (ds : List Df) (k : Nat) : List (List Bool) := (ds.take k).map fun d => List.replicate d.1.toNat false
theorem noN_len (ds : List Df) (k : Nat) (h : k ≤ ds.length) : (noN ds k).length = k := by unfold noN; simp; omega
theorem noN_succ (ds : List Df) (k : Nat) (h : k < ds.length) : noN ds (k + 1) = noN ds k ++ [List.replicate ds[k].1.toNat false] := by
  unfold noN; rw [List.take_succ_eq_append_getElem h, List.map_append]; rfl
theorem noN_holds {ds : List Df} (hp : progB ds = true) : holdsO ds (noN ds ds.length) = true := by
  refine holdsO_yes hp ⟨⟨noN_len ds _ (Nat.le_refl _), fun i h h' => ?_⟩, fun i h h' v hv hb => ?_⟩
  · have := (progB_ar hp _ (List.getElem_mem h)).1
    simp only [noN, List.getElem_map, List.getElem_take, List.length_replicate]
    omega
  · simp [noN] at hb

set_option maxRecDepth 100000 in
set_option maxHeartbeats 3200000 in
theorem walk (len : Nat) (v : Value) (w : World) (h : BytesOn w (Lt w.heap.size) len v) : Calls Try.prog 3 #[v] w fun e w' => e = .returned (.bool true) ∧ Below w.heap.size w w' := by
  have H := mkHid h
  obtain ⟨ad, cap, rfl, hl, hm, -⟩ := h
  unfold maxLen at hm
  obtain ⟨iE, zE, hiE, hzE, hsE, hbE, hcE⟩ := infoE1
  have HE : Hid (Try.prog.info? 28 = some iE ∧ iE.zero = some zE ∧ iE.size = 1 ∧ iE.bytes = 24 ∧ zE.cells.size = 1) := ⟨hiE, hzE, hsE, hbE, hcE⟩
  clear hiE hzE hsE hbE hcE
  go_enter Try.func3, Try.ntmps3
  by_cases hlen : (1048576 : Int) < (len : Int)
  · go_wp2_with fail
    go_ret
    exact ⟨rfl, Below.refl _ _⟩
  clear hl hm
  go_wp2_with fail
  refine (drawNeed_calls len _ w H.out).mono ?_
  rintro e w1 ⟨ds, need, pv, nv, rfl, hp, hd, hn, hb1⟩
  have HP := mkHid hp
  have HB1 := mkHid hb1
  have HDP : Hid (DInP w1 ds pv) := hd.mono (fun _ hk => ⟨hk.2.1, hk.2.2⟩) (fun _ _ => rfl)
  have HDI : Hid (DIn w1 ds pv) := hd.mono (fun _ hk => hk.2.1) (fun _ _ => rfl)
  have hn6 : ds.length ≤ 6 := progB_len hp
  obtain ⟨adp, capp, rfl, hcp1, hcp2, -⟩ := id hd
  unfold maxLen at hcp2
  have HNN := mkHid hn
  obtain ⟨n, hnn⟩ : ∃ n, n = ds.length := ⟨_, rfl⟩
  have HN := mkHid hnn
  rw [← hnn] at HDP HDI hn6 hcp1 ⊢
  obtain ⟨r, hr⟩ : ∃ r, r = holdsO ds need := ⟨_, rfl⟩
  have HI : Hid (∀ W, Below w1.heap.size w1 W → Calls Try.prog 8 #[.slice adp n capp, nv] W fun e w' => e = .returned (.bool r) ∧ Below W.heap.size W w') := fun W hW => by
    rw [hr]
    exact implNeedHolds_calls ds need _ nv W (HDP.out.mono (fun _ hk => hk.next hW) fun k hk => hW.block k hk.1) (HNN.out.next hW) (progB_small HP.out)
  have HS : Hid (∀ W, Below w1.heap.size w1 W → Calls Try.prog 9 #[.slice adp n capp, nv] W fun e w' => e = .returned (.bool r) ∧ Below W.heap.size W w') := fun W hW => by
    rw [hr]
    exact specNeedHolds_calls ds need _ nv W (HDI.out.next hW) (HNN.out.next hW) (progB_small HP.out)
  have HI2 : Hid (∀ W q, Below w1.heap.size w1 W → NIn W (noN ds n) q → Calls Try.prog 8 #[.slice adp n capp, q] W fun e w' => e = .returned (.bool true) ∧ Below W.heap.size W w') := fun W q hW hq => by
    have h := implNeedHolds_calls ds (noN ds n) (.slice adp n capp) q W (HDP.out.mono (fun _ hk => hk.next hW) fun k hk => hW.block k hk.1) hq (progB_small HP.out)
    rw [HN.out, noN_holds HP.out] at h
    rw [HN.out]
    exact h
  have HPV : Hid (∀ W, Below w1.heap.size w1 W → Calls Try.prog 10 #[.slice adp n capp] W fun e w' => e = .returned (.bool true) ∧ Below W.heap.size W w') := fun W hW => by
    have h := implProg_calls ds (.slice adp n capp) W (HDI.out.next hW)
    rw [HP.out] at h
    exact h
  have trr : (r == r) = true := by simp
  clear hp hb1 hd hn hnn hr
  go_wp2_with fail
  refine (HI.out w1 (Below.refl _ _)).mono ?_
  rintro e w2 ⟨rfl, hb2⟩
  have HX2 := mkHid hb2
  clear hb2
  go_wp2_with fail
  go_loopw [6, 7] (fun qv iv wr => ∃ i : Nat, i ≤ n ∧ iv = .int .i64 (i : Int) ∧ Hid (NOwn wr w2.heap.size (noN ds i) qv) ∧ Hid (Below w2.heap.size w2 wr)) (fun _ iv _ => n - (intOf iv).toNat)
  case atStart =>
    exact ⟨0, Nat.zero_le _, rfl, NOwn.nil_of ⟨rfl, Or.inr ⟨_, 0, #[], rfl, Nat.le_refl _, Deep.blk_alloc_new _ _, Nat.le_refl _, by unfold maxLen; omega, rfl, rfl⟩⟩, box_below _ _⟩
  case round =>
    obtain ⟨i, hi, rfl, HO, HB⟩ := hrel
    by_cases hlt : i < n
    · have hid : i < ds.length := by rw [← HN.out]; exact hlt
      have HX : Hid (Below w1.heap.size w1 wr) := HX2.out.trans (HB.out.mono HX2.out.size)
      obtain ⟨bl, off, c, rfl, k0, -⟩ := DefsOn.at (HDI.out.next HX.out) i hid
      have har := progB_ar HP.out _ (List.getElem_mem hid)
      obtain ⟨A, hA⟩ : ∃ A : Nat, ds[i].1 = (A : Int) := ⟨ds[i].1.toNat, by omega⟩
      have hA4 : A ≤ 4 := by omega
      rw [hA] at k0
      have HNS : Hid (noN ds (i + 1) = noN ds i ++ [List.replicate A false]) := by rw [Hid, noN_succ ds i hid, hA, Int.toNat_natCast]
      have hmk := make_boolx A (by omega)
      clear hA har
      have hnl := noN_len ds i (Nat.le_of_lt hid)
      have hws : (wr.alloc (.cells (madeCells #[.bool false] A) 4)).heap.size = wr.heap.size + 1 := by rw [Deep.nblk_alloc]
      have HWX : Hid (Below wr.heap.size wr ((wr.alloc (.cells (madeCells #[.bool false] A) 4)).alloc (.cells #[.slice (some ⟨wr.heap.size, 0, none⟩) A A] 28))) := (box_below _ _).trans ((box_below _ _).mono (by rw [hws]; omega))
      obtain ⟨bs, q1, q2, q3, q4⟩ := HO.out
      have Q1 := mkHid q1
      have Q2 := mkHid q2
      have Q3 := mkHid q3
      have Q4 := mkHid q4
      rw [hnl] at q3
      have HOX : Hid (((wr.alloc (.cells (madeCells #[.bool false] A) 4)).alloc (.cells #[.slice (some ⟨wr.heap.size, 0, none⟩) A A] 28)).ownsRow w2.heap.size 28 1 u6 i (cellsN (noN ds i) bs)) := own_keep q3 fun k _ hk => HWX.out.block k hk
      obtain ⟨xs, hxs⟩ : ∃ xs, xs = cellsN (noN ds i) bs := ⟨_, rfl⟩
      have HXS := mkHid hxs
      rw [← hxs] at HOX
      have HNL := mkHid hnl
      have HSZ : Hid (w2.heap.size ≤ ((wr.alloc (.cells (madeCells #[.bool false] A) 4)).alloc (.cells #[.slice (some ⟨wr.heap.size, 0, none⟩) A A] 28)).heap.size) := Nat.le_trans HB.out.size HWX.out.size
      have HWS := mkHid hws
      clear q1 q2 q3 q4 hxs hnl hws
      go_wp2_with (first
        | (at_builtin; refine wpList_append_at rfl _ _ 24 rfl ((wr.alloc (.cells (madeCells #[.bool false] A) 4)).alloc (.cells #[.slice (some ⟨wr.heap.size, 0, none⟩) A A] 28)) w2.heap.size 28 iE zE 1 24 Try.underlying24 HE.out.1 HE.out.2.1 HE.out.2.2.1 HE.out.2.2.2.1 HE.out.2.2.2.2 (by decide) u6 i xs rfl HOX.out ⟨wr.heap.size + 1, 0, none⟩ 1 1 [.slice (some ⟨wr.heap.size, 0, none⟩) A A] rfl rfl (fun j u hu => by rw [WideShapes.add_plain, Nat.zero_add, ← HWS.out]; exact box_cell _ #[.slice (some ⟨wr.heap.size, 0, none⟩) A A] _ j u (by simpa using hu)) (fun u hu => by simp only [List.mem_cons, List.not_mem_nil, or_false] at hu; rw [hu]; rfl) (by unfold maxLen; omega) (by omega) HSZ.out ?_; intro v' w3 hown' hgrow hnil hat; have HX3 := mkHid hown'; have HG3 := mkHid hgrow; clear hown' hgrow hnil hat)
        | go_in)
      have HN3 : Hid (NOwn w3 w2.heap.size (noN ds (i + 1)) v') := by
        rw [Hid, HNS.out]
        refine NOwn.push (w := wr) (w1 := ((wr.alloc (.cells (madeCells #[.bool false] A) 4)).alloc (.cells #[.slice (some ⟨wr.heap.size, 0, none⟩) A A] 28))) (b := wr.heap.size) (cap := A) Q1.out Q2.out Q3.out Q4.out (fun k _ hk => HWX.out.block k hk) (Nat.le_refl _) HB.out.size ?_ ?_ (fun k hk hne => HG3.out.block k hk hne) HWX.out.size
        · refine ⟨by simp, by unfold maxLen; omega, fun _ => .bool false, ?_, fun j hj => by simp⟩
          exact (World.rowIs_made wr (.bool false) A 4).alloc _
        · rw [HNL.out, List.length_replicate, ← HXS.out]
          exact HX3.out
      have HB3 : Hid (Below w2.heap.size w2 w3) := (HB.out.trans (HWX.out.mono HB.out.size)).grown HG3.out HSZ.out fun b e => (own_some HOX.out b e).1
      exact ⟨⟨i + 1, hlt, by simp, HN3, HB3⟩, by simp only [intOf]; omega⟩
    · have hin : i = n := by omega
      subst hin
      have HX : Hid (Below w1.heap.size w1 wr) := HX2.out.trans (HB.out.mono HX2.out.size)
      go_wp2_with fail
      refine (HS.out wr HX.out).mono ?_
      rintro e w3 ⟨rfl, hb3⟩
      have HB3 := mkHid hb3
      clear hb3
      go_wp2_with fail
      refine (HI2.out w3 _ (HX.out.trans (HB3.out.mono HX.out.size)) (HO.out.nin.next HB3.out)).mono ?_
      rintro e w4 ⟨rfl, hb4⟩
      have HX4 : Hid (Below w1.heap.size w1 w4) := HX.out.trans ((HB3.out.trans (hb4.mono HB3.out.size)).mono HX.out.size)
      clear hb4
      go_wp2_with fail
      refine (HPV.out w4 HX4.out).mono ?_
      rintro e w5 ⟨rfl, hb5⟩
      have HX5 : Hid (Below w1.heap.size w1 w5) := HX4.out.trans (hb5.mono HX4.out.size)
      clear hb5
      go_wp2_with fail
      go_ret
      exact ⟨rfl, HB1.out.trans (HX5.out.mono HB1.out.size)⟩
end Go.Proofs.Ytpkephkgaflklaa.lawNeedLess
