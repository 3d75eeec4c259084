/-
  THE PROGRAM's ofArgs, of what StrictArgs$1 says.
-/
import Derived.Test.YtocnkjicmchbdaaNeedOwn
import Derived.Deep.LoopGhost
namespace Go.Proofs.Ytocnkjicmchbdaa
set_option linter.unusedVariables false
set_option linter.unusedSimpArgs false
open Go.RowKit

set_option maxRecDepth 100000 in
set_option maxHeartbeats 1600000 in
theorem ofTop_calls (ds : List Df) (f : Nat → Nat → Bool) (p : Value) (w : World) (hp : DIn w ds p) (h6 : ds.length ≤ 6) (har : ∀ d ∈ ds, 0 ≤ d.1 ∧ d.1 ≤ 4)
    (hsay : ∀ (W : World) (i v : Nat), Below w.heap.size w W → i < ds.length → v < arN ds i → Calls Try.prog 65 #[.int .i64 (i : Int), .int .i64 (v : Int)] W fun e w' => e = .returned (.bool (f i v)) ∧ Below W.heap.size W w') :
    Calls Try.prog 64 #[p, .func (.func 65) #[] #[]] w (NewN (gridN ds f) w) := by
  have HP := mkHid hp
  have HSAY := mkHid hsay
  have HAR := mkHid har
  obtain ⟨adp, capp, rfl, hpl, hpm, -⟩ := hp
  unfold maxLen at hpm
  clear hsay har
  obtain ⟨iE, zE, hiE, hzE, hsE, hbE, hcE⟩ := infoE1
  have HE : Hid (Try.prog.info? 74 = some iE ∧ iE.zero = some zE ∧ iE.size = 1 ∧ iE.bytes = 24 ∧ zE.cells.size = 1) := ⟨hiE, hzE, hsE, hbE, hcE⟩
  clear hiE hzE hsE hbE hcE
  go_enter Try.func64, Try.ntmps64
  go_wp2_with fail
  go_loopw [5, 12] (fun v i wr => ∃ k : Nat, k ≤ ds.length ∧ i = .int .i64 k ∧ NOwn wr w.heap.size (gridK ds f k) v ∧ Below w.heap.size w wr) (fun _ i _ => ds.length - (intOf i).toNat)
  case atStart => exact ⟨0, Nat.zero_le _, rfl, NOwn.nil _ _, Below.refl _ _⟩
  case round =>
    obtain ⟨k, hk, rfl, hown, hb⟩ := hrel
    obtain ⟨wo, rfl⟩ : ∃ wo : World, wo = wr := ⟨_, rfl⟩
    have HO := mkHid hown
    have HB := mkHid hb
    clear hown hb
    by_cases hlt : k < ds.length
    · obtain ⟨bl, off, c, rfl, c0, c1, c2, c3, -, -, -, hkk⟩ := (HP.out.next HB.out).at k hlt
      obtain ⟨adk, capk, rfl, -, -, -⟩ := id hkk
      have hd4 := HAR.out _ (List.getElem_mem hlt)
      obtain ⟨n, hn⟩ : ∃ n : Nat, ds[k].1 = (n : Int) := ⟨ds[k].1.toNat, by omega⟩
      have hn4 : n ≤ 4 := by omega
      have HAN : Hid (arN ds k = n) := by unfold Hid arN; rw [List.getElem?_eq_getElem hlt]; simp; omega
      obtain ⟨o, ho⟩ : ∃ o, o = ds[k].2.op := ⟨_, rfl⟩
      obtain ⟨m, hm⟩ : ∃ m, m = ds[k].2.num := ⟨_, rfl⟩
      obtain ⟨q, hq⟩ : ∃ q, q = ds[k].2.kids.length := ⟨_, rfl⟩
      rw [hn] at c0
      rw [← ho] at c1
      rw [← hm] at c2
      rw [← hq] at c3
      have hmk := make_boolx n (by omega)
      have HBD : Hid (Below wo.heap.size wo (wo.alloc (.cells #[.int .i64 (n : Int), .int .i64 o, .int .i64 m, .slice adk q capk] 84))) := box_below _ _
      obtain ⟨wd, hwd⟩ : ∃ wd, wd = wo.alloc (.cells #[.int .i64 (n : Int), .int .i64 o, .int .i64 m, .slice adk q capk] 84) := ⟨_, rfl⟩
      have HWD := mkHid hwd
      rw [← hwd] at HBD
      have hsd : wd.heap.size = wo.heap.size + 1 := by rw [hwd, Deep.nblk_alloc]
      have HBM : Hid (Below (wo.heap.size + 1) wd (wd.alloc (.cells (madeCells #[.bool false] n) 4))) := by rw [← hsd]; exact box_below _ _
      have HRS : Hid (RowAt (wd.alloc (.cells (madeCells #[.bool false] n) 4)) (wo.heap.size + 1) n (halfR n (f k) 0)) := by rw [halfR_zero, ← hsd]; exact rowAt_start wd n (by omega)
      have HSD := mkHid hsd
      clear hsd
      clear hkk hd4 hn ho hm hq hwd
      go_wp2_with fail
      rw [← HWD.out]
      go_loopw [22] (fun i wr => ∃ v : Nat, v ≤ n ∧ i = .int .i64 v ∧ RowAt wr (wo.heap.size + 1) n (halfR n (f k) v) ∧ Below (wo.heap.size + 1) wd wr) (fun i _ => n - (intOf i).toNat)
      case atStart => exact ⟨0, Nat.zero_le _, rfl, HRS.out, HBM.out⟩
      case round =>
        obtain ⟨v, hv, rfl, hrow, hb⟩ := hrel
        have HBR := mkHid hb
        have HRW := mkHid hrow
        have HBW : Hid (Below w.heap.size w wr) := HB.out.trans ((HBD.out.trans (hb.mono (by omega))).mono HB.out.size)
        clear hb hrow c0 c1 c2 c3
        by_cases hvl2 : v < n
        · have hvn : v < arN ds k := by rw [HAN.out]; exact hvl2
          have hvI : (v : Int) < (n : Int) := by omega
          go_wp2_with fail
          refine (HSAY.out wr k v HBW.out hlt hvn).mono ?_
          rintro e w3 ⟨rfl, hb3⟩
          have hr3 : RowAt w3 (wo.heap.size + 1) n (halfR n (f k) v) := HRW.out.blk (hb3.block _ HRW.out.lt)
          have HB3 : Hid (Below (wo.heap.size + 1) wd w3) := HBR.out.trans (hb3.mono (by have := HBR.out.size; have := HSD.out; omega))
          have HR4 : Hid (RowAt (w3.setCell ⟨wo.heap.size + 1, v, none⟩ (.bool (f k v))) (wo.heap.size + 1) n (halfR n (f k) (v + 1))) := by have := hr3.set v (f k v); rwa [halfR_succ] at this
          have HB4 : Hid (Below (wo.heap.size + 1) wd (w3.setCell ⟨wo.heap.size + 1, v, none⟩ (.bool (f k v)))) := HB3.out.setCell (Nat.le_refl _) _
          obtain ⟨-, -, fr, hrr, hfr⟩ := hr3
          have x0 := hrr.cell (i := v) hvl2
          have xf := hrr.frozen v
          obtain ⟨y, hy⟩ : ∃ y, y = f k v := ⟨_, rfl⟩
          rw [← hy] at HR4 HB4 ⊢
          clear hb3 hrr hfr hy
          go_wp2_with fail
          go_roundw
          case rel => exact ⟨v + 1, by omega, by go_num, HR4.out, HB4.out⟩
          case measure => simp [intOf]; omega
        · have hve : v = n := by omega
          have HRE : Hid (RowAt wr (wo.heap.size + 1) n ((List.range (arN ds k)).map (f k))) := by rw [HAN.out]; have := HRW.out; rw [hve, halfR_end] at this; exact this
          have HRL : Hid (((List.range (arN ds k)).map (f k)).length = n) := by simp [Hid, HAN.out]
          have hbo : Below wo.heap.size wo wr := HBD.out.trans (HBR.out.mono (by omega))
          have HBO := mkHid hbo
          obtain ⟨bs, q1, q2, q3, q4⟩ := HO.out
          have Q1 := mkHid q1
          have Q2 := mkHid q2
          have Q3 := mkHid q3
          have Q4 := mkHid q4
          rw [gridK_length] at q3
          have HOX : Hid (∀ o, (wr.alloc o).ownsRow w.heap.size 74 1 u5 k (cellsN (gridK ds f k) bs)) := fun o =>
            own_keep q3 fun j _ hj => (Deep.blk_alloc_lt _ _ _ (Nat.lt_of_lt_of_le hj hbo.size)).trans (hbo.block j hj)
          obtain ⟨xs, hxs⟩ : ∃ xs, xs = cellsN (gridK ds f k) bs := ⟨_, rfl⟩
          have HXS := mkHid hxs
          rw [← hxs] at HOX
          have HX0 := mkHid (HOX.out (.cells #[] 4))
          clear q1 q2 q3 q4 hxs
          clear hbo hve
          have hwos := HBO.out.size
          have hwsz := HB.out.size
          have hdsz := HBD.out.size
          go_wp2_with (first
            | (at_builtin; refine wpList_append_own _ rfl _ _ 25 rfl w.heap.size 74 iE zE 1 24 Try.underlying25 HE.out.1 HE.out.2.1 HE.out.2.2.1 HE.out.2.2.2.1 HE.out.2.2.2.2 (by decide) u5 k xs rfl (HOX.out _) ⟨wr.heap.size, 0, none⟩ 1 1 [.slice (some ⟨wo.heap.size + 1, 0, none⟩) n n] rfl rfl (fun j u hu => by rw [WideShapes.add_plain, Nat.zero_add]; exact box_cell wr #[.slice (some ⟨wo.heap.size + 1, 0, none⟩) n n] _ j u (by simpa using hu)) (fun u hu => by simp only [List.mem_cons, List.not_mem_nil, or_false] at hu; rw [hu]; rfl) (by unfold maxLen; omega) (by omega) (by rw [Deep.nblk_alloc]; omega) ?_; intro v' w3 hown' hgrow hnil; have HX3 : Hid (w3.ownsRow w.heap.size 74 1 v' (k + 1) (xs ++ [.slice (some ⟨wo.heap.size + 1, 0, none⟩) n n])) := hown'; have HG3 := mkHid hgrow; clear hown' hgrow hnil)
            | go_in)
          have HN3 : Hid (NOwn w3 w.heap.size (gridK ds f (k + 1)) v') := by
            rw [gridK_succ]
            refine NOwn.push (w := wo) (w1 := wr) (b := wo.heap.size + 1) (cap := n) Q1.out Q2.out Q3.out Q4.out (fun j _ hj => HBO.out.block j hj) (by omega) (by omega) HRE.out ?_ (fun j hj hne => ?_) HBO.out.size
            · rw [HRL.out, gridK_length, ← HXS.out]; exact HX3.out
            · exact (HG3.out.block j (by rw [Deep.nblk_alloc]; omega) hne).trans (Deep.blk_alloc_lt _ _ _ hj)
          have HB3 : Hid (Below w.heap.size w w3) := by
            have hbw := HB.out.trans (HBO.out.mono HB.out.size)
            have hg := HG3.out
            refine ⟨by rw [hg.os]; exact hbw.os, by rw [hg.tape]; exact hbw.tape, by rw [hg.output]; exact hbw.output, Nat.le_trans hbw.size (by have := hg.size; rw [Deep.nblk_alloc] at this; omega), fun j hj => ?_⟩
            exact ((hg.block j (by rw [Deep.nblk_alloc]; omega) (fun e => by have := own_block HX0.out e; omega)).trans (Deep.blk_alloc_lt _ _ _ (by omega))).trans (hbw.block j hj)
          refine ⟨⟨k + 1, by omega, by go_num, HN3.out, HB3.out⟩, by simp [intOf]; omega⟩
    · have hke : k = ds.length := by omega
      have HV : Hid (NOwn wo w.heap.size (gridN ds f) u5) := by have := HO.out; rw [hke] at this; exact this
      clear hke
      go_wp2_with fail
      go_ret
      exact ⟨_, rfl, HV.out, HB.out⟩
end Go.Proofs.Ytocnkjicmchbdaa
