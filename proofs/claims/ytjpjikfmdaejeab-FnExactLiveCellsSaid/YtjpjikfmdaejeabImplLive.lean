/-
  THE PROGRAM's LiveCells.
-/
import Derived.Test.YtjpjikfmdaejeabImplCopyG
import Derived.Test.YtjpjikfmdaejeabLiveT
namespace Go.Proofs.Ytjpjikfmdaejeab
set_option linter.unusedVariables false
set_option linter.unusedSimpArgs false
open Go.RowKit

set_option maxHeartbeats 1600000 in
theorem implLive_calls (g : List Ce) (rs : List Int) (v rv : Value) (w : World) (hk : CIn w g v) (hr : IIn w rs rv) :
    Calls Try.prog 15 #[v, rv] w fun e w' => e = .returned (.tuple #[.int .i64 (liveO g rs), .bool (rootB g rs)]) ∧ Below w.heap.size w w' := by
  have HK : Hid (CIn w g v) := hk
  have HR : Hid (IIn w rs rv) := hr
  clear hk hr
  go_enter Try.func15, Try.ntmps15
  go_wp2_with fail
  refine (canCopy_calls g rs _ _ _ HK.out HR.out).mono ?_
  rintro e w1 ⟨rfl, hb1⟩
  have HB1 : Hid (Below w.heap.size w w1) := hb1
  clear hb1
  cases hg : rootB g rs with
  | false =>
    have HV := mkHid (liveO_no hg)
    have HT := mkHid hg
    clear hg
    go_wp2_with fail
    go_ret2
    exact ⟨ret_ib HV.out.symm HT.out.symm, HB1.out⟩
  | true =>
    have HT := mkHid hg
    have HV := mkHid (liveO_yes hg)
    have HR2 : Hid (IIn w1 (plI (natL rs)) rv) := by
      have h := HR.out.next HB1.out
      rw [root_back hg] at h
      exact h
    clear hg
    go_wp2_with fail
    refine (copyFrom_calls g (natL rs) _ _ _ (HK.out.next HB1.out) HR2.out (rootB_iff.1 HT.out).1 (root_lt HT.out) (by rw [natL_len]; exact (rootB_iff.1 HT.out).2.1)).mono ?_
    rintro e w2 ⟨C, M, fv, gv, ov, tv, S, rfl, hC, hbx, hog, hS, hoo, hot, hb2⟩
    have c1 := cell_of_blk hbx 1 _ rfl
    have HB2 : Hid (Below w.heap.size w w2) := HB1.out.trans (hb2.mono HB1.out.size)
    have hcl : (copyG g (natL rs)).length ≤ 400 := by rw [copyG_len]; have := (order_cs (rootB_iff.1 HT.out).1 (root_lt HT.out)).len; have := graphB_len (rootB_iff.1 HT.out).1; omega
    have HLC := mkHid (liveC_copy g (natL rs))
    have HG2 := mkHid (hog.own fun k h _ => (hS k h).1).inn
    obtain ⟨G, hG⟩ : ∃ G, G = copyG g (natL rs) := ⟨_, rfl⟩
    rw [← hG] at hcl HLC HG2
    obtain ⟨adg, capg, rfl, hlg, hmg, -⟩ := id HG2.out
    unfold maxLen at hmg
    have hCl : C < w2.heap.size := (Array.getElem?_eq_some_iff.1 hbx).1
    clear hbx hog hS hoo hot hb2 hG
    go_wp2_with fail
    go_loopw [8, 27] (fun n i wr => ∃ k : Nat, k ≤ G.length ∧ i = .int .i64 k ∧ n = .int .i64 (liveC (G.take k) : Int) ∧ Below w2.heap.size w2 wr) (fun _ i _ => G.length - (intOf i).toNat)
    case atStart => exact ⟨0, Nat.zero_le _, rfl, rfl, Below.refl _ _⟩
    case round =>
      obtain ⟨k, hk, rfl, rfl, hb⟩ := hrel
      have HB : Hid (Below w2.heap.size w2 wr) := hb
      have hll := liveC_le (G.take k)
      have htl : (G.take k).length ≤ 400 := by rw [List.length_take]; omega
      obtain ⟨q, hq⟩ : ∃ q, q = liveC (G.take k) := ⟨_, rfl⟩
      have HQ := mkHid hq
      rw [← hq] at hll ⊢
      clear hq
      by_cases hlt : k < G.length
      · obtain ⟨bl, off, r2, rfl, d0, d1, d2, -, -, hkk⟩ := (HG2.out.next hb).at k hlt
        obtain ⟨adk, capk, rfl, -, -, -⟩ := id hkk
        clear hb hkk
        by_cases ho : G[k].op = 11
        · have HV2 : Hid (q = liveC (G.take (k + 1))) := by rw [Hid, take_snocC hlt, liveC_snoc, ← HQ.out, ho]; simp
          have t1 : (G[k].op != 11) = false := by simp [ho]
          clear ho
          go_wp2_with fail
          go_roundw
          case rel => exact ⟨k + 1, by omega, by go_num, by rw [← HV2.out], HB.out.trans ((box_below _ _).mono HB.out.size)⟩
          case measure => simp [intOf]; omega
        · have HV2 : Hid (q + 1 = liveC (G.take (k + 1))) := by rw [Hid, take_snocC hlt, liveC_snoc, ← HQ.out]; simp [ho]
          have t1 : (G[k].op != 11) = true := by simpa using ho
          clear ho
          go_wp2_with fail
          go_roundw
          case rel => exact ⟨k + 1, by omega, by go_num, by rw [← HV2.out]; go_num, HB.out.trans ((box_below _ _).mono HB.out.size)⟩
          case measure => simp [intOf]; omega
      · have hke : k = G.length := by omega
        have HE : Hid ((q : Int) = liveO g rs) := by rw [Hid, HV.out, ← HLC.out, HQ.out, hke, List.take_length]
        clear hke hb
        go_wp2_with fail
        go_ret2
        exact ⟨ret_ib HE.out HT.out.symm, HB2.out.trans (HB.out.mono HB2.out.size)⟩
end Go.Proofs.Ytjpjikfmdaejeab
