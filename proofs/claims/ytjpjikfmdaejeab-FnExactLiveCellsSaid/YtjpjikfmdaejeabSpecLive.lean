/-
  THE MODEL's LiveCells.
-/
import Derived.Test.YtjpjikfmdaejeabSpecOrder
import Derived.Test.YtjpjikfmdaejeabSpecRight
import Derived.Test.YtjpjikfmdaejeabLiveT
namespace Go.Proofs.Ytjpjikfmdaejeab
set_option linter.unusedVariables false
set_option linter.unusedSimpArgs false
open Go.RowKit

set_option maxHeartbeats 1600000 in
theorem specLive_calls (g : List Ce) (rs : List Int) (v rv : Value) (w : World) (hk : CIn w g v) (hr : IIn w rs rv) :
    Calls Try.prog 13 #[v, rv] w fun e w' => e = .returned (.tuple #[.int .i64 (liveO g rs), .bool (rootB g rs)]) ∧ Below w.heap.size w w' := by
  have HK : Hid (CIn w g v) := hk
  have HR : Hid (IIn w rs rv) := hr
  obtain ⟨ad, cap, rfl, hl, hm, -⟩ := hk
  unfold maxLen at hm
  clear hr
  go_enter Try.func13, Try.ntmps13
  go_wp2_with fail
  refine (l5Right_calls g rs _ _ _ HK.out HR.out).mono ?_
  rintro e w1 ⟨rfl, hb1⟩
  have HB1 : Hid (Below w.heap.size w w1) := hb1
  clear hb1
  cases hg : rootB g rs with
  | false =>
    have HV := mkHid (liveO_no hg)
    have HT := mkHid hg
    clear hg
    go_wp2_with fail
    go_ret2
    exact ⟨ret_ib HV.out.symm HT.out.symm, HB1.out⟩
  | true =>
    have HT := mkHid hg
    have HV := mkHid (liveO_yes hg)
    have HG := mkHid (rootB_iff.1 hg).1
    have HR2 : Hid (IIn w1 (plI (natL rs)) rv) := by
      have h := HR.out.next HB1.out
      rw [root_back hg] at h
      exact h
    clear hg
    go_wp2_with fail
    refine (l5Order_calls g (natL rs) _ _ _ (HK.out.next HB1.out) HR2.out HG.out (root_lt HT.out) (by rw [natL_len]; exact (rootB_iff.1 HT.out).2.1)).mono ?_
    rintro e w2 ⟨tv, rfl, hs, hb2⟩
    have HS := mkHid hs.pin
    have HB2 : Hid (Below w.heap.size w w2) := HB1.out.trans (hb2.mono HB1.out.size)
    have HCS := mkHid (order_cs HG.out (root_lt HT.out))
    obtain ⟨o, ho⟩ : ∃ o, o = orderG g (natL rs) := ⟨_, rfl⟩
    have HO := mkHid ho
    rw [← ho] at HS HCS
    have hol : o.length ≤ 400 := by have := HCS.out.len; have := graphB_len HG.out; omega
    obtain ⟨ado, capo, rfl, hlo, hmo⟩ := pl_form HS.out
    unfold maxLen at hmo
    clear hs hb2 ho
    go_wp2_with fail
    go_loopw [6, 8] (fun n i wr => ∃ k : Nat, k ≤ o.length ∧ i = .int .i64 k ∧ n = .int .i64 (liveL g (o.take k) : Int) ∧ Below w2.heap.size w2 wr) (fun _ i _ => o.length - (intOf i).toNat)
    case atStart => exact ⟨0, Nat.zero_le _, rfl, rfl, Below.refl _ _⟩
    case round =>
      obtain ⟨k, hk, rfl, rfl, hb⟩ := hrel
      have HB : Hid (Below w2.heap.size w2 wr) := hb
      have hll := liveL_le g (o.take k)
      have htl : (o.take k).length ≤ 400 := by rw [List.length_take]; omega
      obtain ⟨q, hq⟩ : ∃ q, q = liveL g (o.take k) := ⟨_, rfl⟩
      have HQ := mkHid hq
      rw [← hq] at hll ⊢
      clear hq hb
      by_cases hlt : k < o.length
      · obtain ⟨blo, offo, a, rfl, hblo, ha, ham, dow⟩ := pl_at HS.out k hlt
        have hal := HCS.out.2 a ham
        obtain ⟨bl, off, r2, rfl, c0w, -, -, -, -, -⟩ := (HK.out.next HB2.out).at a hal
        have c0 := (HB.out.cell (p := ⟨bl, off + a * 3, none⟩) (cell_lt c0w)).trans c0w
        have co := (HB.out.cell (p := ⟨blo, offo + k, none⟩) hblo).trans dow
        have HA : Hid (o[k]? = some a) := ha
        by_cases ho : g[a].op = 11
        · have HV2 : Hid (q = liveL g (o.take (k + 1))) := by rw [Hid, take_snoc HA.out, liveL_snoc, ← HQ.out, opAt_at a hal, ho]; simp
          have t1 : (g[a].op != 11) = false := by simp [ho]
          clear c0w dow ha ho
          go_wp2_with fail
          go_roundw
          case rel => exact ⟨k + 1, by omega, by go_num, by rw [← HV2.out], HB.out⟩
          case measure => simp [intOf]; omega
        · have HV2 : Hid (q + 1 = liveL g (o.take (k + 1))) := by rw [Hid, take_snoc HA.out, liveL_snoc, ← HQ.out, opAt_at a hal]; simp [ho]
          have t1 : (g[a].op != 11) = true := by simpa using ho
          clear c0w dow ha ho
          go_wp2_with fail
          go_roundw
          case rel => exact ⟨k + 1, by omega, by go_num, by rw [← HV2.out]; go_num, HB.out⟩
          case measure => simp [intOf]; omega
      · have hke : k = o.length := by omega
        have HE : Hid ((q : Int) = liveO g rs) := by rw [Hid, HV.out, ← HO.out, HQ.out, hke, List.take_length]
        clear hke
        go_wp2_with fail
        go_ret2
        exact ⟨ret_ib HE.out HT.out.symm, HB2.out.trans (HB.out.mono HB2.out.size)⟩
end Go.Proofs.Ytjpjikfmdaejeab
