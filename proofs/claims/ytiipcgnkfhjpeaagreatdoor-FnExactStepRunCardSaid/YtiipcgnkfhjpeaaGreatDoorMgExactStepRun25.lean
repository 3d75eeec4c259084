/-
  THE MODEL's l4Call.
-/
import Derived.Test.YtiipcgnkfhjpeaaGreatDoorMgExactStepRun14
import Derived.Test.YtiipcgnkfhjpeaaGreatDoorMgExactStepRun22
import Derived.Test.YtiipcgnkfhjpeaaGreatDoorMgExactStepRun23
import Derived.Test.YtiipcgnkfhjpeaaGreatDoorMgExactStepRun24
import Derived.Test.YtiipcgnkfhjpeaaGreatDoorMgExactStepRun20
import Derived.Deep.RegionHeld3
namespace Go.Proofs.YtiipcgnkfhjpeaaGreatDoor
set_option linter.unusedVariables false
set_option linter.unusedSimpArgs false
open Go.RowKit

/-- .. the graph in new blocks if the step was made -/
def StG (r : List Ce × Nat) (w : World) (e : Ending) (w' : World) : Prop := ∃ v, e = .returned (.tuple #[v, .int .i64 (r.2 : Int)]) ∧ CellsOn w' (fun k => k < w'.heap.size ∧ (r.2 = 0 → w.heap.size ≤ k)) r.1 v ∧ Below w.heap.size w w'
theorem CellsOn.inW {w : World} {S : Nat → Prop} {g : List Ce} {v : Value} (h : CellsOn w (fun k => k < w.heap.size ∧ S k) g v) : CIn w g v := h.mono (fun _ h => h.1) (fun _ _ => rfl)
theorem CellsOn.newW {w w' : World} {P : Prop} {g : List Ce} {v : Value} (h : CellsOn w' (fun k => k < w'.heap.size ∧ w.heap.size ≤ k) g v) : CellsOn w' (fun k => k < w'.heap.size ∧ (P → w.heap.size ≤ k)) g v := h.mono (fun _ h => ⟨h.1, fun _ => h.2⟩) (fun _ _ => rfl)
theorem CellsOn.oldW {w w' : World} {P : Prop} {g : List Ce} {v : Value} (h : CIn w' g v) (hp : ¬ P) : CellsOn w' (fun k => k < w'.heap.size ∧ (P → w.heap.size ≤ k)) g v := CellsOn.mono h (fun _ h => ⟨h, fun hh => absurd hh hp⟩) (fun _ _ => rfl)
theorem CellsOn.backW {w w1 w' : World} {P : Prop} {g : List Ce} {v : Value} (h : CellsOn w' (fun k => k < w'.heap.size ∧ (P → w1.heap.size ≤ k)) g v) (hs : w.heap.size ≤ w1.heap.size) : CellsOn w' (fun k => k < w'.heap.size ∧ (P → w.heap.size ≤ k)) g v := h.mono (fun _ h => ⟨h.1, fun hh => Nat.le_trans hs (h.2 hh)⟩) (fun _ _ => rfl)
theorem below_grown2 {W w3 w4 : World} {S : Nat → Prop} {g : List Ce} {v : Value} (hb : Below W.heap.size W w3) (h : w3.grownBy w4 v.ownBlock) (ho : OwnC w3 W.heap.size S g v) : Below W.heap.size W w4 :=
  below_grown hb h fun k hk => by obtain ⟨ys, hy⟩ := ho.row; exact (hy.lt k hk).1
theorem own_cell {w : World} {base n cap b : Nat} {xs : List Value} (h : w.ownsRow base 93 3 (.slice (some ⟨b, 0, none⟩) n cap) n xs) (j : Nat) (hj : j < n * 3) : ∃ z, w.cell? ⟨b, j, none⟩ = some z :=
  ⟨_, (h.cellAt j hj).trans (List.getElem?_eq_getElem (by have := h.1; omega))⟩
theorem ind_i64 (k : Nat) : I64 (indTo k).op ∧ I64 (indTo k).num := by unfold I64 indTo; simp
theorem num_i64 {n : Int} (h0 : 0 ≤ n) (h1 : n ≤ 999) : I64 (numC n).op ∧ I64 (numC n).num := by unfold I64 numC; simp; omega
theorem args_snoc (g : List Ce) (xs : List Nat) (k : Nat) (hk : k < xs.length) : argsL g (xs.drop k) = argsL g (xs.drop (k + 1)) ++ [kidAt g xs[k] 1] := by
  unfold argsL
  rw [List.drop_eq_getElem_cons hk, List.map_cons, List.reverse_cons]

set_option maxRecDepth 100000 in
set_option maxHeartbeats 6400000 in
theorem l4Call_calls (ds : List Df) (g : List Ce) (at' f n : Nat) (xs : List Nat) (c v : Value) (w : World) (hd : DIn w ds c) (hk : CIn w g v) (hg : graphB g ds.length = true) (hp : progB ds = true) (ha : at' < g.length)
    (hs : spine g at' = some (f, xs)) (h3 : opAt g f = 3) (hn : numAt g f = (n : Int)) (hnl : n < ds.length) (hl : ds[n].1 = (xs.length : Int)) :
    Calls Tryz.prog 94 #[c, v, .int .i64 (at' : Int)] w (StG (callG ds g at') w) := by
  have HD : Hid (DIn w ds c) := hd
  have HK : Hid (CIn w g v) := hk
  have HG := mkHid hg
  have HP := mkHid hp
  have HS := mkHid hs
  have HCP := mkHid (call_parts hg hp ha hs hn hnl hl)
  have hok := spine_ok hg ha hs
  have hff : f < g.length := hok.1
  have HOK := mkHid hok
  have HN := mkHid hn
  obtain ⟨ad, cap, rfl, hlg, hm, -⟩ := hk
  obtain ⟨adp, capp, rfl, hlp, hmp, -⟩ := hd
  have h400 : g.length ≤ 400 := graphB_len hg
  have hx4 : xs.length ≤ 4 := HCP.out.2.2.2.2.1
  unfold maxLen at hm hmp
  clear hg hp hs hok hn hl
  go_enter Tryz.func94, Tryz.ntmps94
  go_wp2_with fail
  refine (l4Spine_calls g at' _ _ HK.out ⟨_, HG.out⟩ ha).mono ?_
  rintro e w1 ⟨xs', v1, hxs, rfl, hi1, hb1⟩
  obtain rfl : xs' = xs := hxs _ HS.out
  rw [HS.out]
  have e1 : spI (some (f, xs')) = (f : Int) := rfl
  rw [e1]
  have HB1 : Hid (Below w.heap.size w w1) := hb1
  have HI1 : Hid (IIn w1 (plI xs') v1) := hi1.inn
  obtain ⟨ad1, cap1, rfl, -, -, -⟩ := hi1
  rw [plI_length] at HI1 ⊢
  have HS0 : Hid (Stk (w1.alloc (.cells #[] 3)) w1.heap.size [] (.slice (some ⟨w1.heap.size, 0, none⟩) 0 0)) := ⟨rfl, Or.inr ⟨_, 0, _, rfl, Nat.le_refl _, Deep.blk_alloc_new _ _, Nat.le_refl _, by simp [maxLen], rfl, rfl⟩⟩
  clear hb1 hxs
  go_wp2_with fail
  go_loopw [10, 11] (fun av i wr => ∃ (k : Nat) (z : Int), k ≤ xs'.length ∧ z = (k : Int) - 1 ∧ i = .int .i64 z ∧ Stk wr w1.heap.size (argsL g (xs'.drop k)) av ∧ Below w1.heap.size w1 wr) (fun _ i _ => (intOf i + 1).toNat)
  case atStart => exact ⟨xs'.length, _, Nat.le_refl _, rfl, by simp, by simpa [argsL] using HS0.out, box_below _ _⟩
  case round =>
    obtain ⟨k, z, hk, hz, rfl, hst, hb⟩ := hrel
    have HST : Hid (Stk wr w1.heap.size (argsL g (xs'.drop k)) _) := hst
    have HB := mkHid hb
    have hll : (argsL g (xs'.drop k)).length ≤ 4 := by unfold argsL; simp; omega
    have HZ := mkHid hz
    obtain ⟨ada, capa, rfl⟩ := hst.len
    clear hst hb hz
    by_cases h0 : k = 0
    · subst h0
      have hz0 : z < 0 := by have := HZ.out; omega
      have HST2 : Hid (Stk wr w1.heap.size (argsL g xs') (.slice ada (argsL g xs').length capa)) := HST.out
      rw [List.drop_zero] at hll ⊢
      clear HST
      obtain ⟨blp, offp, rk, hep, -, p1w, p2w, p3w, -, io, iN, hkk⟩ := HD.out.at n hnl
      cases hep
      obtain ⟨blg, offg, rg, heg, -, g1w, -, -, -, -⟩ := HK.out.at f hff
      cases heg
      have hnum : g[f].num = (n : Int) := by rw [← numAt_at f hff]; exact HN.out
      rw [hnum] at g1w
      have HBR : Hid (Below w.heap.size w wr) := HB1.out.trans (HB.out.mono HB1.out.size)
      have HP1 := mkHid p1w
      have HP2 := mkHid p2w
      have HP3 := mkHid p3w
      have HG1 := mkHid g1w
      have q1 := (HBR.out.cell (p := ⟨blp, offp + n * 4 + 1, none⟩) (cell_lt p1w)).trans p1w
      have q2 := (HBR.out.cell (p := ⟨blp, offp + n * 4 + 2, none⟩) (cell_lt p2w)).trans p2w
      have q3 := (HBR.out.cell (p := ⟨blp, offp + n * 4 + 3, none⟩) (cell_lt p3w)).trans p3w
      have q4 := (HBR.out.cell (p := ⟨blg, offg + f * 3 + 1, none⟩) (cell_lt g1w)).trans g1w
      obtain ⟨adr, capr, rfl, -, -, -⟩ := id hkk
      have HKK := mkHid hkk
      have HIO := mkHid (And.intro io iN)
      clear p1w p2w p3w g1w hnum hkk io iN
      go_wp2_with fail
      go_region_held3 (fun w' => w'.cell? ⟨blp, offp + n * 4 + 1, none⟩ = some (.int .i64 ds[n].2.op) ∧ w'.cell? ⟨blp, offp + n * 4 + 2, none⟩ = some (.int .i64 ds[n].2.num) ∧ w'.cell? ⟨blp, offp + n * 4 + 3, none⟩ = some (.slice adr ds[n].2.kids.length capr) ∧ w'.cell? ⟨blg, offg + f * 3 + 1, none⟩ = some (.int .i64 (n : Int)))
        (first
          | go_keep
          | exact ⟨s1, s2, s3, s4⟩
          | exact ⟨r1, r2, r3, r4⟩
          | exact ⟨q1, q2, q3, q4⟩)
        (first
          | (go_at_call 53; refine (l3Copy_calls g _ wr.drew (HK.out.next (HBR.out.drew)) ⟨_, HG.out⟩).mono ?_; rintro en w3 ⟨gv, rfl, hog, hb3⟩; have HOG : Hid (OwnC w3 wr.heap.size (fun b => wr.heap.size ≤ b) g gv) := hog; have HB3 : Hid (Below wr.heap.size wr w3) := (Below.refl _ _).drew.trans hb3; have HBW3 : Hid (Below w.heap.size w w3) := HBR.out.trans (HB3.out.mono HBR.out.size); have r1 := (HBW3.out.cell (p := ⟨blp, offp + n * 4 + 1, none⟩) (cell_lt HP1.out)).trans HP1.out; have r2 := (HBW3.out.cell (p := ⟨blp, offp + n * 4 + 2, none⟩) (cell_lt HP2.out)).trans HP2.out; have r3 := (HBW3.out.cell (p := ⟨blp, offp + n * 4 + 3, none⟩) (cell_lt HP3.out)).trans HP3.out; have r4 := (HBW3.out.cell (p := ⟨blg, offg + f * 3 + 1, none⟩) (cell_lt HG1.out)).trans HG1.out; clear hog hb3)
          | (go_at_call 66; refine (ad_calls (argsL g xs') ds[n].2 gv (.slice ada (argsL g xs').length capa) (.slice adr ds[n].2.kids.length capr) wr.heap.size (fun b => wr.heap.size ≤ b) g w3 HOG.out HB3.out.size (HST2.out.row.inn.mono (fun _ h => h) (fun b hb => HB3.out.block b hb)) (HKK.out.mono (fun k hk => Nat.lt_of_lt_of_le hk HBR.out.size) (fun b hb => HBW3.out.block b hb)) (by have := HCP.out.2.2.2.1; omega) (by have := HCP.out.2.1; omega) HIO.out.1 HIO.out.2 (varOk_of_sh _ _ 16 _ HCP.out.2.2.1)).mono ?_; rintro en w4 ⟨gv', rfl, hog4, hg4, how4⟩; obtain ⟨ad5, cap5, rfl⟩ := hog4.form; have HO4 := mkHid hog4; have HB34 : Hid (Below wr.heap.size wr w4) := below_grown2 HB3.out hg4 HOG.out; have HBW4 : Hid (Below w.heap.size w w4) := HBR.out.trans (HB34.out.mono HBR.out.size); have s1 := (HBW4.out.cell (p := ⟨blp, offp + n * 4 + 1, none⟩) (cell_lt HP1.out)).trans HP1.out; have s2 := (HBW4.out.cell (p := ⟨blp, offp + n * 4 + 2, none⟩) (cell_lt HP2.out)).trans HP2.out; have s3 := (HBW4.out.cell (p := ⟨blp, offp + n * 4 + 3, none⟩) (cell_lt HP3.out)).trans HP3.out; have s4 := (HBW4.out.cell (p := ⟨blg, offg + f * 3 + 1, none⟩) (cell_lt HG1.out)).trans HG1.out; clear hog4 hg4 how4))
      have HSZ := mkHid (addT_size (argsL g xs') ds[n].2 g)
      clear s1 s2 s3 s4
      by_cases hle : (addT (argsL g xs') ds[n].2 g).1.length ≤ 400
      · have HV : Hid (callG ds g at' = ((addT (argsL g xs') ds[n].2 g).1.set at' (indTo (addT (argsL g xs') ds[n].2 g).2), 0)) := by
          unfold Hid callG; rw [HCP.out.1, if_pos hle]
        have hle2 : ¬ ((400 : Int) < ((addT (argsL g xs') ds[n].2 g).1.length : Int)) := by omega
        have hat : at' < (addT (argsL g xs') ds[n].2 g).1.length := by have := HSZ.out.1; omega
        clear hle
        generalize addT (argsL g xs') ds[n].2 g = R at *
        obtain ⟨ys, hys⟩ := HO4.out.row
        have hb5 : ∃ b5, ad5 = some ⟨b5, 0, none⟩ := by
          rcases hys.2 with ⟨-, h0⟩ | ⟨b5, c5, cur5, e5, -⟩
          · omega
          · simp only [Value.slice.injEq] at e5; exact ⟨b5, e5.1⟩
        obtain ⟨b5, rfl⟩ := hb5
        have hyl := hys.1
        have hys2 := World.ownsRow.alloc hys (.cells #[.int .i64 (R.2 : Int)] 3)
        obtain ⟨z0, y0⟩ := own_cell hys2 (at' * 3) (by omega)
        obtain ⟨z1, y1⟩ := own_cell hys2 (at' * 3 + 1) (by omega)
        obtain ⟨z2, y2⟩ := own_cell hys2 (at' * 3 + 2) (by omega)
        have f0 := hys2.frozenAt (at' * 3)
        have f1 := hys2.frozenAt (at' * 3 + 1)
        have f2 := hys2.frozenAt (at' * 3 + 2)
        have hatI : (at' : Int) < (R.1.length : Int) := by omega
        have hb5 : wr.heap.size ≤ b5 := (hys.lt b5 rfl).1
        have hbz : b5 < w4.heap.size := (hys.lt b5 rfl).2
        have hoa : OwnC (w4.alloc (.cells #[.int .i64 (R.2 : Int)] 3)) wr.heap.size (fun b => wr.heap.size ≤ b ∧ b < w4.heap.size) R.1 (.slice (some ⟨b5, 0, none⟩) R.1.length cap5) :=
          HO4.out.next (fun k hk hz => ⟨by rcases hk with h | h; exact h; exact Nat.le_trans HB3.out.size h, hz⟩) (fun k _ hz => Deep.blk_alloc_lt _ _ _ hz) (fun k _ hz => Deep.blk_alloc_lt _ _ _ hz)
        have hset := hoa.setc at' hat (c := indTo R.2) (kv := .slice (some ⟨w4.heap.size, 0, none⟩) 1 1) (blk := w4.heap.size) (ind_i64 R.2) (krow_one w4 R.2) (by rintro ⟨-, h⟩; omega)
        have HFIN := mkHid ((hset.own (fun k hk _ => by rcases hk with h | h; exact h.1; have := HB34.out.size; omega)).onS (S := fun k => k < (st3 (w4.alloc (.cells #[.int .i64 (R.2 : Int)] 3)) b5 at' 11 0 (.slice (some ⟨w4.heap.size, 0, none⟩) 1 1)).heap.size ∧ w.heap.size ≤ k) (fun k hk hz => ⟨hz, Nat.le_trans HBR.out.size (List.mem_range'_1.1 hk).1⟩))
        have HBF : Hid (Below w.heap.size w (st3 (w4.alloc (.cells #[.int .i64 (R.2 : Int)] 3)) b5 at' 11 0 (.slice (some ⟨w4.heap.size, 0, none⟩) 1 1))) := st3_below (HBW4.out.alloc HBW4.out.size _) (Nat.le_trans HBR.out.size hb5)
        clear hys hys2 hoa hset hb5 hbz
        go_wp2_with fail
        go_ret2
        rw [HV.out]
        exact ⟨_, rfl, HFIN.out.newW, HBF.out⟩
      · have HV : Hid (callG ds g at' = (g, 3)) := by
          unfold Hid callG; rw [HCP.out.1, if_neg hle]
        have hle2 : (400 : Int) < ((addT (argsL g xs') ds[n].2 g).1.length : Int) := by omega
        clear hle
        go_wp2_with fail
        go_ret2
        rw [HV.out]
        exact ⟨_, rfl, CellsOn.oldW (HK.out.next HBW4.out) (by simp), HBW4.out⟩
    · obtain ⟨m, rfl⟩ : ∃ m, k = m + 1 := ⟨k - 1, by omega⟩
      obtain rfl : z = (m : Int) := by have := HZ.out; omega
      have hml : m < xs'.length := by omega
      have hmx := HOK.out.2.2.2.1 xs'[m] (List.getElem_mem hml)
      obtain ⟨am, ham⟩ : ∃ am, am = xs'[m] := ⟨_, rfl⟩
      rw [← ham] at hmx
      obtain ⟨haml, hm4⟩ := hmx
      have hpm : m < (plI xs').length := by rw [plI_length]; exact hml
      obtain ⟨gb, go, rfl, q0w⟩ := HI1.out.at m hpm
      have hpe : (plI xs')[m] = (am : Int) := by rw [ham]; simp [plI]
      rw [hpe] at q0w
      have HQ := mkHid q0w
      obtain ⟨bl, off, r, rfl, c0w, c1w, c2w, -, -, hkk⟩ := (HK.out.next HB1.out).at am haml
      have hk1 : 1 < g[am].kids.length := by
        have h1 := kids_count HG.out am haml
        have h2 := opAt_at am haml
        rw [hm4] at h2
        rw [← h2] at h1
        have e : cArity 4 = 2 := by decide
        omega
      obtain ⟨hke, hkl⟩ := kidAt_get HG.out am haml 1 hk1
      obtain ⟨ad2, cap2, rfl, -, -, -⟩ := id hkk
      obtain ⟨bl2, off2, rfl, d1w⟩ := hkk.at 1 hk1
      rw [hke] at d1w
      obtain ⟨kv, hkv⟩ : ∃ kv, kv = kidAt g am 1 := ⟨_, rfl⟩
      rw [← hkv] at d1w
      have q0 := (HB.out.cell (p := ⟨gb, go + m, none⟩) (cell_lt q0w)).trans q0w
      have c2 := (HB.out.cell (p := ⟨bl, off + am * 3 + 2, none⟩) (cell_lt c2w)).trans c2w
      have d1 := (HB.out.cell (p := ⟨bl2, off2 + 1, none⟩) (cell_lt d1w)).trans d1w
      have HSN : Hid (argsL g (xs'.drop m) = argsL g (xs'.drop (m + 1)) ++ [kv]) := by rw [hkv, ham]; exact args_snoc g xs' m hml
      have HS3 : Hid (Stk (wr.alloc (.cells #[.int .i64 (kv : Int)] 3)) w1.heap.size (argsL g (xs'.drop (m + 1))) (.slice ada (argsL g (xs'.drop (m + 1))).length capa)) := HST.out.alloc _
      have HK3 : Hid (IIn (wr.alloc (.cells #[.int .i64 (kv : Int)] 3)) [(kv : Int)] (.slice (some ⟨wr.heap.size, 0, none⟩) 1 1)) := one_in wr kv
      have HLO : Hid (w1.heap.size ≤ (wr.alloc (.cells #[.int .i64 (kv : Int)] 3)).heap.size) := by rw [Hid, Deep.nblk_alloc]; have := HB.out.size; omega
      have HOB : Hid (∀ j, (Value.slice ada (argsL g (xs'.drop (m + 1))).length capa).ownBlock = some j → w1.heap.size ≤ j) := fun j hj => own_lo HST.out hj.symm
      clear hkk hke hkl c0w c1w c2w d1w q0w hpe hkv ham hm4 hpm
      go_wp2_with (at_builtin; go_must (refine wpList_push rfl _ _ rfl _ w1.heap.size (argsL g (xs'.drop (m + 1))) [kv] (.slice ada (argsL g (xs'.drop (m + 1))).length capa) (.slice (some ⟨wr.heap.size, 0, none⟩) 1 1) rfl HS3.out rfl HK3.out rfl HLO.out (by simp; omega) ?_); go_must (intro v' w5 hst5 hg5); go_must (have HS5 : Hid (Stk w5 w1.heap.size (argsL g (xs'.drop m)) v') := by rw [HSN.out]; exact hst5); go_must (have HB5 : Hid (Below w1.heap.size w1 w5) := by have hb3 : Below w1.heap.size w1 (wr.alloc (.cells #[.int .i64 (kv : Int)] 3)) := HB.out.alloc HB.out.size _; exact ⟨by rw [hg5.os]; exact hb3.os, by rw [hg5.tape]; exact hb3.tape, by rw [hg5.output]; exact hb3.output, Nat.le_trans hb3.size hg5.size, fun j hj => (hg5.block j (by have := hb3.size; omega) (fun e => by have := HOB.out j e.symm; omega)).trans (hb3.block j hj)⟩); clear hst5 hg5 q0 c2 d1)
      go_roundw
      case rel => first | exact ⟨m, (m : Int) - 1, by omega, rfl, rfl, HS5.out, HB5.out⟩ | ((repeat apply Exists.intro); exact ⟨⟨m, (m : Int) - 1, by omega, rfl, rfl, HS5.out, HB5.out⟩, rfl⟩)
      case measure => (simp [intOf] <;> omega)
end Go.Proofs.YtiipcgnkfhjpeaaGreatDoor
