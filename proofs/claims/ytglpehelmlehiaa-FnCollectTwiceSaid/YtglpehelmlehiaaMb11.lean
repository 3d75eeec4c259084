/-
  THE MODEL's AddExpr.
-/
import Derived.Test.YtglpehelmlehiaaMb10
import Derived.Deep.RegionHeld3
import Derived.Test.YtglpehelmlehiaaMb8
import Derived.Test.YtglpehelmlehiaaProg
import Derived.Test.YtglpehelmlehiaaMb5
import Derived.Test.YtglpehelmlehiaaMb9
import Derived.Laws.OwnMore
namespace Go.Proofs.Ytglpehelmlehiaa
set_option linter.unusedVariables false
set_option linter.unusedSimpArgs false
open Go.RowKit

theorem mkHid2 {p : Prop} (h : p) : Hid p := h
theorem OwnC.downS {w : World} {lo lo' : Nat} {S S' : Nat → Prop} {g : List Ce} {v : Value} (h : OwnC w lo S g v) (hl : lo' ≤ lo) (hS : ∀ k, S k → S' k) : OwnC w lo' S' g v := by
  obtain ⟨hi0, xs, kb, h1, h2, h3⟩ := h.next (S' := S') (fun k hk _ => hS k hk) (fun _ _ _ => rfl) (fun _ _ _ => rfl)
  refine ⟨hi0, xs, kb, ⟨h1.1, ?_⟩, h2, h3⟩
  rcases h1.2 with h | ⟨b, cap, cur, rfl, hg, r⟩
  · exact Or.inl h
  · exact Or.inr ⟨b, cap, cur, rfl, Nat.le_trans hl hg, r⟩
set_option maxRecDepth 100000 in
set_option maxHeartbeats 1600000 in
theorem specAddX_calls (g : List Ce) (t : Tr) (xs : List Int) (defs : Int) (gv c av : Value) (w : World) (hg : CIn w g gv) (hk : In w t.kids c) (ha : IIn w xs av) (ho : I64 t.op) (hn : I64 t.num) :
    Calls Try.prog 108 #[gv, .agg #[.int .i64 t.op, .int .i64 t.num, c], av, .int .i64 defs] w (AddOut (addOut g t xs defs) w) := by
  have HG : Hid (CIn w g gv) := hg
  have HK : Hid (In w t.kids c) := hk
  have HA : Hid (IIn w xs av) := ha
  have HT : Hid (I64 t.op ∧ I64 t.num) := ⟨ho, hn⟩
  obtain ⟨adg, capg, rfl, hgl, hgm, -⟩ := hg
  obtain ⟨ad, cap, rfl, -, hm, -⟩ := hk
  obtain ⟨ada, capa, rfl, hal, ham, -⟩ := ha
  unfold maxLen at hm hgm ham
  clear ho hn
  go_enter Try.func108, Try.ntmps108
  go_wp2_with fail
  refine (specGraph_calls g defs _ _ (HG.out.next (box_below _ _))).mono ?_
  rintro e w1 ⟨rfl, hb1⟩
  have HB1 : Hid (Below w.heap.size w w1) := (box_below _ _).trans (hb1.mono (by rw [Deep.nblk_alloc]; omega))
  have hz1 : w.heap.size < w1.heap.size := by have := hb1.size; rw [Deep.nblk_alloc] at this; omega
  have hr1 : w1.heap[w.heap.size]? = some (.cells #[.int .i64 t.op, .int .i64 t.num, .slice ad t.kids.length cap] 32) := (hb1.block _ (by rw [Deep.nblk_alloc]; omega)).trans (Deep.blk_alloc_new _ _)
  have HR1 : Hid (w1.heap[w.heap.size]? = some (.cells #[.int .i64 t.op, .int .i64 t.num, .slice ad t.kids.length cap] 32)) := hr1
  have r0 := cell_of_blk hr1 0 _ rfl
  have r1 := cell_of_blk hr1 1 _ rfl
  have r2 := cell_of_blk hr1 2 _ rfl
  clear hb1 hr1
  by_cases hgb : graphB g defs = true
  · have HGB : Hid (graphB g defs = true) := hgb
    rw [hgb]
    clear hgb
    go_wp2_with fail
    have hval := specValid_calls t (xs.length : Int) defs (.slice ad t.kids.length cap) w1 (HK.out.next HB1.out)
    refine hval.mono ?_
    rintro e w2 ⟨rfl, hb2⟩
    have HB2 : Hid (Below w.heap.size w w2) := HB1.out.trans (hb2.mono HB1.out.size)
    have hz2 : w.heap.size < w2.heap.size := by have := hb2.size; omega
    have HR2 : Hid (w2.heap[w.heap.size]? = some (.cells #[.int .i64 t.op, .int .i64 t.num, .slice ad t.kids.length cap] 32)) := (hb2.block _ hz1).trans HR1.out
    clear hb2 hval r0 r1 r2
    by_cases hv : validB t xs.length defs = true
    · have HVB : Hid (validB t xs.length defs = true) := hv
      obtain ⟨v1, v2, -, v4⟩ := validB_small hv
      have HSZ : Hid (1 + szT t ≤ 60 ∧ shB xs.length defs 16 t = true ∧ (xs.length : Int) ≤ 4) := ⟨v1, v2, v4⟩
      have hx4 : xs.length ≤ 4 := by omega
      rw [hv]
      clear hv v1 v2 v4
      go_wp2_with fail
      go_loopw [11] (fun i wr => ∃ k : Nat, k ≤ xs.length ∧ i = .int .i64 k ∧ (xs.take k).all (isAt g.length) = true ∧ Below w2.heap.size w2 wr) (fun i _ => xs.length - (intOf i).toNat)
      case atStart => exact ⟨0, Nat.zero_le _, rfl, by simp, Below.refl _ _⟩
      case round =>
        obtain ⟨k, hk, rfl, hall, hb⟩ := hrel
        have HAL : Hid ((xs.take k).all (isAt g.length) = true) := hall
        have HBW : Hid (Below w.heap.size w wr) := HB2.out.trans (hb.mono HB2.out.size)
        have HRW : Hid (wr.heap[w.heap.size]? = some (.cells #[.int .i64 t.op, .int .i64 t.num, .slice ad t.kids.length cap] 32)) := (hb.block _ hz2).trans HR2.out
        have HB : Hid (Below w2.heap.size w2 wr) := hb
        by_cases hlt : k < xs.length
        · obtain ⟨bl, off, rfl, d0⟩ := (HA.out.next HBW.out).at k hlt
          by_cases h0 : xs[k] < 0
          · have HV : Hid (addOut g t xs defs = ([], 0, false)) := addOut_no fun h => by
              have := List.all_eq_true.1 h.2.2.1 _ (List.getElem_mem hlt)
              unfold isAt at this
              simp at this
              omega
            clear hall hb
            go_wp2_with fail
            refine bodyPost_ret (v := .tuple #[.slice (some ⟨wr.heap.size, 0, none⟩) 0 0, .int .i64 0, .bool false]) (by simp [results, Try.results108, go_sem]) rfl ?_
            rw [HV.out]
            exact ⟨_, rfl, OwnC.zero (Deep.blk_alloc_new _ _) HBW.out.size, HBW.out.alloc HBW.out.size _⟩
          · by_cases h1 : xs[k] < (g.length : Int)
            · have HV : Hid ((xs.take (k + 1)).all (isAt g.length) = true) := by
                rw [Hid, List.take_succ_eq_append_getElem hlt, List.all_append, HAL.out]
                simp [isAt]
                omega
              have h1' : ¬ ((g.length : Int) ≤ xs[k]) := by omega
              clear hall hb h1
              go_wp2_with fail
              go_roundw
              case rel => exact ⟨k + 1, by omega, by go_num, HV.out, HB.out⟩
              case measure => simp [intOf]; omega
            · have HV : Hid (addOut g t xs defs = ([], 0, false)) := addOut_no fun h => by
                have := List.all_eq_true.1 h.2.2.1 _ (List.getElem_mem hlt)
                unfold isAt at this
                simp at this
                omega
              have h1' : (g.length : Int) ≤ xs[k] := by omega
              clear hall hb h1
              go_wp2_with fail
              refine bodyPost_ret (v := .tuple #[.slice (some ⟨wr.heap.size, 0, none⟩) 0 0, .int .i64 0, .bool false]) (by simp [results, Try.results108, go_sem]) rfl ?_
              rw [HV.out]
              exact ⟨_, rfl, OwnC.zero (Deep.blk_alloc_new _ _) HBW.out.size, HBW.out.alloc HBW.out.size _⟩
        · have hke : k = xs.length := by omega
          have HXS : Hid (xs.all (isAt g.length) = true) := by
            have h := HAL.out
            rw [hke, List.take_length] at h
            exact h
          clear hall hb hke
          have r0 := cell_of_blk HRW.out 0 _ rfl
          have r1 := cell_of_blk HRW.out 1 _ rfl
          have r2 := cell_of_blk HRW.out 2 _ rfl
          have HADD : Hid (∀ (v3 : Value) (W w3 : World), Below w.heap.size w W → OwnC w3 W.heap.size (fun b => W.heap.size ≤ b) g v3 → Below W.heap.size W w3 → Calls Try.prog 122 #[v3, .agg #[.int .i64 t.op, .int .i64 t.num, .slice ad t.kids.length cap], .slice ada xs.length capa] w3 (fun e w' => ∃ gv, e = .returned (.tuple #[gv, .int .i64 ((addT (xs.map Int.toNat) t g).2 : Int)]) ∧ OwnC w' w.heap.size (fun b => w.heap.size ≤ b) (addT (xs.map Int.toNat) t g).1 gv ∧ Below w.heap.size w w' ∧ ∀ k, k < W.heap.size → w'.heap[k]? = W.heap[k]?)) := by
            intro v3 W w3 hW hg3 hb3
            have hsW := hW.size
            have hB3 : Below w.heap.size w w3 := hW.trans (hb3.mono hsW)
            have hg3' : OwnC w3 w.heap.size (fun b => w.heap.size ≤ b) g v3 := hg3.downS hsW (fun b hb => by omega)
            have h400 := graphB_len HGB.out
            obtain ⟨ys, hy⟩ := hg3.row
            refine (ad_calls (xs.map Int.toNat) t v3 _ _ w.heap.size (fun b => w.heap.size ≤ b) g w3 hg3' hB3.size (by rw [← args_back HXS.out]; exact HA.out.mono (fun _ h => h) (fun b hb => hB3.block b hb)) (HK.out.mono (fun _ h => h) (fun b hb => hB3.block b hb)) (by have := HSZ.out.1; omega) (by rw [List.length_map]; omega) HT.out.1 HT.out.2 (by rw [List.length_map]; exact varOk_of_sh xs.length defs 16 t HSZ.out.2.1)).mono ?_
            rintro e w5 ⟨gv', rfl, hg5, hgr5, -⟩
            exact ⟨gv', rfl, hg5.next (fun b hb _ => by rcases hb with hb | hb; exact hb; have := hB3.size; omega) (fun _ _ _ => rfl) (fun _ _ _ => rfl), below_grown hB3 hgr5 (fun k hk => by have := (own_some hy k hk).1; omega), fun k hk => (hgr5.block k (by have := hb3.size; omega) (fun e => by have := (own_some hy k e.symm).1; omega)).trans (hb3.block k hk)⟩
          go_wp2_with fail
          go_region_held3 (fun w' => w'.cell? ⟨w.heap.size, 0, none⟩ = some (.int .i64 t.op) ∧ w'.cell? ⟨w.heap.size, 1, none⟩ = some (.int .i64 t.num) ∧ w'.cell? ⟨w.heap.size, 2, none⟩ = some (.slice ad t.kids.length cap))
            (first
              | go_keep
              | exact ⟨e0, e1, e2⟩
              | exact ⟨d0, d1, d2⟩
              | exact ⟨r0, r1, r2⟩
              | trivial)
            (first
              | (go_at_call 102; refine (l3Copy_calls g _ wr.drew (HG.out.next HBW.out.drew) ⟨defs, HGB.out⟩).mono ?_; rintro e w3 ⟨v3, rfl, hg3, hb3⟩; have HG3 := mkHid2 hg3; have HB3 := mkHid2 hb3; have hr3 := (hb3.block w.heap.size (by have := HBW.out.size; show _ < wr.heap.size; exact cellsOf_lt HRW.out)).trans HRW.out; have d0 := cell_of_blk hr3 0 _ rfl; have d1 := cell_of_blk hr3 1 _ rfl; have d2 := cell_of_blk hr3 2 _ rfl; clear hg3 hb3 hr3)
              | (go_at_call 122; refine (HADD.out v3 wr.drew w3 HBW.out.drew HG3.out HB3.out).mono ?_; rintro e w5 ⟨gv', rfl, hg5, hb5, hk5⟩; have HG5 := mkHid2 hg5; have HB5 := mkHid2 hb5; have hr5 := (hk5 w.heap.size (by show _ < wr.heap.size; exact cellsOf_lt HRW.out)).trans HRW.out; have e0 := cell_of_blk hr5 0 _ rfl; have e1 := cell_of_blk hr5 1 _ rfl; have e2 := cell_of_blk hr5 2 _ rfl; clear hg5 hb5 hk5 hr5))
          obtain ⟨adz, capz, rfl⟩ := HG5.out.form
          by_cases hle : (addT (xs.map Int.toNat) t g).1.length ≤ 400
          · have HV : Hid (addOut g t xs defs = ((addT (xs.map Int.toNat) t g).1, (addT (xs.map Int.toNat) t g).2, true)) := addOut_yes HGB.out HVB.out HXS.out hle
            have hle2 : ¬ ((400 : Int) < ((addT (xs.map Int.toNat) t g).1.length : Int)) := by omega
            clear hle d0 d1 d2 e0 e1 e2 r0 r1 r2
            go_wp2_with fail
            refine bodyPost_ret (v := .tuple #[.slice adz (addT (xs.map Int.toNat) t g).1.length capz, .int .i64 ((addT (xs.map Int.toNat) t g).2 : Int), .bool true]) (by simp [results, Try.results108, go_sem]) rfl ?_
            rw [HV.out]
            exact ⟨_, rfl, HG5.out, HB5.out⟩
          · have HV : Hid (addOut g t xs defs = ([], 0, false)) := addOut_no fun h => hle h.2.2.2
            have hle2 : (400 : Int) < ((addT (xs.map Int.toNat) t g).1.length : Int) := by omega
            clear hle d0 d1 d2 e0 e1 e2 r0 r1 r2
            go_wp2_with fail
            refine bodyPost_ret (v := .tuple #[.slice (some ⟨w5.heap.size, 0, none⟩) 0 0, .int .i64 0, .bool false]) (by simp [results, Try.results108, go_sem]) rfl ?_
            rw [HV.out]
            exact ⟨_, rfl, OwnC.zero (Deep.blk_alloc_new _ _) HB5.out.size, HB5.out.alloc HB5.out.size _⟩
    · have HV : Hid (addOut g t xs defs = ([], 0, false)) := addOut_no fun h => hv h.2.1
      rw [Bool.not_eq_true] at hv
      rw [hv]
      clear hv
      go_wp2_with fail
      refine bodyPost_ret (v := .tuple #[.slice (some ⟨w2.heap.size, 0, none⟩) 0 0, .int .i64 0, .bool false]) (by simp [results, Try.results108, go_sem]) rfl ?_
      rw [HV.out]
      exact ⟨_, rfl, OwnC.zero (Deep.blk_alloc_new _ _) HB2.out.size, HB2.out.alloc HB2.out.size _⟩
  · have HV : Hid (addOut g t xs defs = ([], 0, false)) := addOut_no fun h => hgb h.1
    rw [Bool.not_eq_true] at hgb
    rw [hgb]
    clear hgb
    go_wp2_with fail
    refine bodyPost_ret (v := .tuple #[.slice (some ⟨w1.heap.size, 0, none⟩) 0 0, .int .i64 0, .bool false]) (by simp [results, Try.results108, go_sem]) rfl ?_
    rw [HV.out]
    exact ⟨_, rfl, OwnC.zero (Deep.blk_alloc_new _ _) HB1.out.size, HB1.out.alloc HB1.out.size _⟩
end Go.Proofs.Ytglpehelmlehiaa
/-
  THE MODEL's l3Follow; nothing that was there is changed.
-/
namespace Go.Proofs.Ytglpehelmlehiaa
set_option linter.unusedVariables false
set_option linter.unusedSimpArgs false
open Go.RowKit

/-- what l3Follow answers: the place, or -1 -/
def folI (o : Option Nat) : Int := match o with | some b => (b : Int) | none => -1
theorem followN_ind {g : List Ce} {n a : Nat} (h : opAt g a = 11) : followN g (n + 1) a = followN g n (nxt g a) := by rw [followN, if_pos h]
theorem followN_stop {g : List Ce} {n a : Nat} (h : ¬ opAt g a = 11) : followN g (n + 1) a = some a := by rw [followN, if_neg h]
theorem opAt_at {g : List Ce} (a : Nat) (ha : a < g.length) : opAt g a = g[a].op := by unfold opAt; rw [getD_at _ _ _ ha]

set_option maxHeartbeats 800000 in
theorem l3Follow_calls (g : List Ce) (a : Nat) (v : Value) (w : World) (hk : CIn w g v) (hg : ∃ defs, graphB g defs = true) (ha : a < g.length) :
    Calls Try.prog 103 #[v, .int .i64 (a : Int)] w fun e w' => e = .returned (.int .i64 (folI (followN g (g.length + 1) a))) ∧ Below w.heap.size w w' := by
  have HK : Hid (CIn w g v) := hk
  obtain ⟨ad, cap, rfl, hl, hm, -⟩ := hk
  unfold maxLen at hm
  obtain ⟨defs, hg⟩ := hg
  have HG : Hid (graphB g defs = true) := hg
  have h400 : g.length ≤ 400 := graphB_len hg
  clear hg
  go_enter Try.func103, Try.ntmps103
  go_wp2_with fail
  go_loopw [1, 5] (fun at' i wr => ∃ k b : Nat, k ≤ g.length + 1 ∧ i = .int .i64 k ∧ at' = .int .i64 (b : Int) ∧ b < g.length ∧ followN g (g.length + 1) a = followN g (g.length + 1 - k) b ∧ Below w.heap.size w wr) (fun _ i _ => g.length + 1 - (intOf i).toNat)
  case atStart => exact ⟨0, a, Nat.zero_le _, rfl, rfl, ha, rfl, Below.refl _ _⟩
  case round =>
    obtain ⟨k, b, hk, rfl, rfl, hbl, hf, hb⟩ := hrel
    have HF : Hid (followN g (g.length + 1) a = followN g (g.length + 1 - k) b) := hf
    have HB : Hid (Below w.heap.size w wr) := hb
    clear hf
    by_cases hlt : k ≤ g.length
    · have HLT : Hid (k ≤ g.length) := hlt
      obtain ⟨bl, off, r, rfl, c0, c1, c2, -, -, hkk⟩ := (HK.out.next hb).at b hbl
      clear hb
      by_cases ho : g[b].op = 11
      · obtain ⟨y, hy1, hy2, hy3⟩ := ind_kid HG.out b hbl ho
        have HV : Hid (followN g (g.length + 1) a = followN g (g.length + 1 - (k + 1)) y) := by
          have h1 := HF.out
          rw [show g.length + 1 - k = (g.length + 1 - (k + 1)) + 1 by omega] at h1
          exact h1.trans ((followN_ind (by rw [opAt_at b hbl]; exact ho)).trans (by rw [hy3]))
        have t1 : (g[b].op != 11) = false := by simp [ho]
        obtain ⟨ad2, cap2, rfl, hl2, hm2, -⟩ := id hkk
        obtain ⟨bl2, off2, rfl, d0⟩ := hkk.at 0 (by rw [hy1]; simp)
        have hlen1 : g[b].kids.length = 1 := by rw [hy1]; rfl
        have hkid : g[b].kids[0]'(by omega) = (y : Int) := by simp [hy1]
        rw [hkid, Nat.add_zero] at d0
        rw [hlen1] at c2
        clear ho hy1 hy3 hkid hlen1 hkk hl2 hm2
        go_wp2_with fail
        go_roundw
        case rel => exact ⟨k + 1, y, by have := HLT.out; omega, by go_num, rfl, hy2, HV.out, HB.out⟩
        case measure => have := HLT.out; simp [intOf]; omega
      · have HV : Hid (folI (followN g (g.length + 1) a) = (b : Int)) := by
          have h1 := HF.out
          rw [show g.length + 1 - k = (g.length - k) + 1 by omega] at h1
          rw [Hid, h1.trans (followN_stop (by rw [opAt_at b hbl]; exact ho))]; rfl
        have t1 : (g[b].op != 11) = true := by simpa using ho
        clear ho hkk
        go_wp2_with fail
        go_ret
        exact ⟨ret_int HV.out.symm, HB.out⟩
    · have HV : Hid (folI (followN g (g.length + 1) a) = -1) := by
        have := HF.out
        rw [show g.length + 1 - k = 0 by omega] at this
        rw [Hid, this]; rfl
      clear hb
      go_wp2_with fail
      go_ret
      exact ⟨ret_int HV.out.symm, HB.out⟩

theorem ret_ib {a b : Int} {p q : Bool} (h : a = b) (h' : p = q) : Ending.returned (.tuple #[.int .i64 a, .bool p]) = .returned (.tuple #[.int .i64 b, .bool q]) := by rw [h, h']

end Go.Proofs.Ytglpehelmlehiaa
/-
  PLAIN FACTS ON NESTED APPLICATIONS IN A GRAPH, VALUES AND REDEXES.
-/
namespace Go.Proofs.Ytglpehelmlehiaa
set_option linter.unusedVariables false
set_option linter.unusedSimpArgs false

theorem kids_count {g : List Ce} {defs : Int} (h : graphB g defs = true) (a : Nat) (ha : a < g.length) : (g[a].kids.length : Int) = cArity g[a].op := by
  have hc := graphB_cell h a ha
  unfold cellB fitsB at hc
  simp only [Bool.and_eq_true, decide_eq_true_eq] at hc
  exact hc.1.1
/-- operand j of a cell, as a place -/
def kidAt (g : List Ce) (a j : Nat) : Nat := (kidsN g a).getD j 0
theorem kidAt_get {g : List Ce} {defs : Int} (h : graphB g defs = true) (a : Nat) (ha : a < g.length) (j : Nat) (hj : j < g[a].kids.length) : g[a].kids[j] = (kidAt g a j : Int) ∧ kidAt g a j < g.length := by
  obtain ⟨k, h1, h2, h3⟩ := kidsN_get h a ha j hj
  have e : kidAt g a j = k := by unfold kidAt; rw [List.getD_eq_getElem?_getD, h3]; rfl
  rw [e]; exact ⟨h1, h2⟩
/-- the function of nested applications and the cells of these, after at most n looks -/
def spineN (g : List Ce) : Nat → Nat → Option (Nat × List Nat)
  | 0, _ => none
  | n + 1, a => match followN g g.length a with
    | none => none
    | some f => if opAt g f = 4 then (spineN g n (kidAt g f 0)).map (fun x => (x.1, f :: x.2)) else some (f, [])
def spine (g : List Ce) (a : Nat) : Option (Nat × List Nat) := spineN g (g.length + 1) a

/-- what holds behind every look -/
structure SpRel (g : List Ce) (a : Nat) (ws : List Nat) (b : Nat) : Prop where
  eq : spine g a = (spineN g (g.length + 1 - ws.length) b).map fun x => (x.1, ws ++ x.2)
  len : ws.length ≤ g.length + 1
  lt : b < g.length
theorem SpRel.start {g : List Ce} {a : Nat} (h : a < g.length) : SpRel g a [] a := ⟨by unfold spine; simp, by simp, h⟩
theorem SpRel.none {g : List Ce} {a b : Nat} {ws : List Nat} (h : SpRel g a ws b) (hl : ws.length ≤ g.length) (hf : followN g g.length b = .none) : spine g a = .none := by
  rw [h.eq, show g.length + 1 - ws.length = (g.length - ws.length) + 1 by omega, spineN, hf]; rfl
theorem SpRel.out {g : List Ce} {a b : Nat} {ws : List Nat} (h : SpRel g a ws b) (hl : g.length < ws.length) : spine g a = .none := by
  rw [h.eq, show g.length + 1 - ws.length = 0 by omega, spineN]; rfl
theorem SpRel.fin {g : List Ce} {a b f : Nat} {ws : List Nat} (h : SpRel g a ws b) (hl : ws.length ≤ g.length) (hf : followN g g.length b = some f) (ho : ¬ opAt g f = 4) : spine g a = some (f, ws) := by
  rw [h.eq, show g.length + 1 - ws.length = (g.length - ws.length) + 1 by omega, spineN, hf]
  simp [ho]
theorem SpRel.next {g : List Ce} {defs : Int} {a b f : Nat} {ws : List Nat} (h : SpRel g a ws b) (hg : graphB g defs = true) (hl : ws.length ≤ g.length) (hf : followN g g.length b = some f) (ho : opAt g f = 4) : SpRel g a (ws ++ [f]) (kidAt g f 0) := by
  have hfl := (followN_lt hg _ _ _ h.lt hf).1
  refine ⟨?_, by simp; omega, (kidAt_get hg f hfl 0 ?_).2⟩
  · rw [h.eq, show g.length + 1 - ws.length = (g.length - ws.length) + 1 by omega, spineN, hf]
    simp only [ho, if_true, List.length_append, List.length_cons, List.length_nil, Nat.zero_add]
    rw [show g.length + 1 - (ws.length + 1) = g.length - ws.length by omega, Option.map_map]
    congr 1
    funext x
    simp
  · have := kids_count hg f hfl
    rw [opAt_at f hfl] at ho
    rw [ho] at this
    have e : cArity 4 = 2 := by decide
    omega
theorem spineN_ok {g : List Ce} {defs : Int} (hg : graphB g defs = true) : ∀ (n a f : Nat) (l : List Nat), a < g.length → spineN g n a = some (f, l) → f < g.length ∧ opAt g f ≠ 4 ∧ opAt g f ≠ 11 ∧ (∀ k ∈ l, k < g.length ∧ opAt g k = 4) ∧ l.length < n
  | 0, _, _, _, _, e => by simp [spineN] at e
  | n + 1, a, f, l, ha, e => by
    unfold spineN at e
    cases hf : followN g g.length a with
    | none => rw [hf] at e; simp at e
    | some b =>
      rw [hf] at e
      have hb := followN_lt hg _ _ _ ha hf
      simp only at e
      split at e
      · rename_i h4
        obtain ⟨⟨f', l'⟩, h1, h2⟩ := Option.map_eq_some_iff.1 e
        simp only [Prod.mk.injEq] at h2
        obtain ⟨rfl, rfl⟩ := h2
        have hk : kidAt g b 0 < g.length := by
          refine (kidAt_get hg b hb.1 0 ?_).2
          have := kids_count hg b hb.1
          rw [opAt_at b hb.1] at h4
          rw [h4] at this
          have e : cArity 4 = 2 := by decide
          omega
        obtain ⟨r1, r2, r3, r4, r5⟩ := spineN_ok hg n _ _ _ hk h1
        refine ⟨r1, r2, r3, fun k hk => ?_, by simp; omega⟩
        rcases List.mem_cons.1 hk with rfl | hk
        · exact ⟨hb.1, h4⟩
        · exact r4 k hk
      · rename_i h4
        simp only [Option.some.injEq, Prod.mk.injEq] at e
        obtain ⟨rfl, rfl⟩ := e
        exact ⟨hb.1, h4, hb.2, by simp, by simp⟩
theorem spine_ok {g : List Ce} {defs : Int} (hg : graphB g defs = true) {a f : Nat} {l : List Nat} (ha : a < g.length) (h : spine g a = some (f, l)) : f < g.length ∧ opAt g f ≠ 4 ∧ opAt g f ≠ 11 ∧ (∀ k ∈ l, k < g.length ∧ opAt g k = 4) ∧ l.length ≤ g.length := by
  obtain ⟨r1, r2, r3, r4, r5⟩ := spineN_ok hg _ _ _ _ ha h
  exact ⟨r1, r2, r3, r4, by omega⟩
/-- a cell that is neither an application nor an indirection is its own function -/
theorem spine_self {g : List Ce} {f : Nat} (hf : f < g.length) (h4 : opAt g f ≠ 4) (h11 : opAt g f ≠ 11) : spine g f = some (f, []) := by
  unfold spine spineN
  have e : followN g g.length f = some f := by
    obtain ⟨n, hn⟩ : ∃ n, g.length = n + 1 := ⟨g.length - 1, by omega⟩
    rw [hn]; exact followN_stop h11
  rw [e]; simp [h4]

/-- what SpineOf answers -/
def spV (g : List Ce) (a : Int) : Option (Nat × List Nat) := if graphB g 6 = true ∧ 0 ≤ a ∧ a < g.length then spine g a.toNat else none
def spF (o : Option (Nat × List Nat)) : Int := match o with | some x => (x.1 : Int) | none => 0
def spL (o : Option (Nat × List Nat)) : List Nat := match o with | some x => x.2 | none => []

/-! ### Values -/
def numAt (g : List Ce) (a : Nat) : Int := (g.getD a ⟨0, 0, []⟩).num
theorem numAt_at {g : List Ce} (a : Nat) (ha : a < g.length) : numAt g a = g[a].num := by unfold numAt; rw [getD_at _ _ _ ha]
/-- the arity of a function -/
def arOf (ars : List Int) (n : Int) : Int := (ars[n.toNat]?).getD 0
/-- does a cell stand for a value? -/
def valB (ars : List Int) (g : List Ce) (a : Nat) : Bool := match spine g a with
  | none => false
  | some (f, l) => if opAt g f = 2 ∨ opAt g f = 5 then decide (l.length = 0) else decide (opAt g f = 3) && decide ((l.length : Int) < arOf ars (numAt g f))

/-! ### Redexes -/
/-- the application of a function to as many cells as its arity says -/
def callAt (f : Nat) (l : List Nat) (ar : Int) : Nat := if ar = 0 then f else l.getD (l.length - ar.toNat) 0
/-- the kind of the cell for which a cell stands -/
def kindOf (g : List Ce) (a : Nat) : Option Int := (followN g g.length a).map (opAt g)
/-- does a step wait for an operand? none: it is stuck; some (some k): for k -/
def waitOne (ars : List Int) (g : List Ce) (k : Nat) (kind : Int) (rest : Option (Option Nat)) : Option (Option Nat) :=
  if valB ars g k = false then some (some k) else if kindOf g k = some kind then rest else none
def waits (ars : List Int) (g : List Ce) (f : Nat) : Option (Option Nat) :=
  if opAt g f = 6 ∨ opAt g f = 7 then waitOne ars g (kidAt g f 0) 5 (some none)
  else if opAt g f = 10 then waitOne ars g (kidAt g f 0) 2 (some none)
  else waitOne ars g (kidAt g f 0) 2 (waitOne ars g (kidAt g f 1) 2 (some none))
/-- the redex of a cell that stands for no value, after at most n operands -/
def redexN (ars : List Int) (g : List Ce) : Nat → Nat → Option Nat
  | 0, _ => none
  | n + 1, a => match spine g a with
    | none => none
    | some (f, l) =>
      if opAt g f = 3 then some (callAt f l (arOf ars (numAt g f)))
      else if opAt g f = 2 ∨ opAt g f = 5 then none
      else match waits ars g f with
        | none => none
        | some none => some f
        | some (some k) => redexN ars g n k
def redex (ars : List Int) (g : List Ce) (a : Nat) : Option Nat := redexN ars g (g.length + 1) a
end Go.Proofs.Ytglpehelmlehiaa
/-
  PLAIN FACTS ON A PROGRAM AND A GRAPH: arities; which cells stand for values.
-/
namespace Go.Proofs.Ytglpehelmlehiaa
set_option linter.unusedVariables false
set_option linter.unusedSimpArgs false

/-- the arities -/
def arsOf (ds : List Df) : List Int := ds.map (·.1)
theorem arOf_at (ds : List Df) (n : Nat) (h : n < ds.length) : arOf (arsOf ds) (n : Int) = ds[n].1 := by
  unfold arOf arsOf
  simp [h]
theorem glob_num {g : List Ce} {defs : Int} (h : graphB g defs = true) (f : Nat) (hf : f < g.length) (ho : g[f].op = 3) : ∃ n : Nat, g[f].num = (n : Int) ∧ (n : Int) < defs := by
  have hc := graphB_cell h f hf
  unfold cellB fitsB ownB at hc
  simp only [ho, Bool.and_eq_true, decide_eq_true_eq] at hc
  have h2 := hc.1.2
  simp at h2
  exact ⟨g[f].num.toNat, by omega, by omega⟩
theorem valB_none {ars : List Int} {g : List Ce} {a : Nat} (h : spine g a = none) : valB ars g a = false := by unfold valB; rw [h]
theorem valB_num {ars : List Int} {g : List Ce} {a f : Nat} {l : List Nat} (h : spine g a = some (f, l)) (ho : opAt g f = 2 ∨ opAt g f = 5) : valB ars g a = decide (l.length = 0) := by
  unfold valB; rw [h]; exact if_pos ho
theorem valB_glob {ars : List Int} {g : List Ce} {a f : Nat} {l : List Nat} (h : spine g a = some (f, l)) (ho : opAt g f = 3) : valB ars g a = decide ((l.length : Int) < arOf ars (numAt g f)) := by
  unfold valB; rw [h]
  show (if opAt g f = 2 ∨ opAt g f = 5 then _ else _) = _
  rw [if_neg (by omega), decide_eq_true ho, Bool.true_and]
theorem valB_no {ars : List Int} {g : List Ce} {a f : Nat} {l : List Nat} (h : spine g a = some (f, l)) (h2 : opAt g f ≠ 2) (h5 : opAt g f ≠ 5) (h3 : opAt g f ≠ 3) : valB ars g a = false := by
  unfold valB; rw [h]
  show (if opAt g f = 2 ∨ opAt g f = 5 then _ else _) = _
  rw [if_neg (by omega), decide_eq_false h3, Bool.false_and]
/-- are a program, a graph and a cell valid together? -/
def rightB (ds : List Df) (g : List Ce) (root : Int) : Bool := progB ds && (graphB g ds.length && isAt g.length root)
def valO (ds : List Df) (g : List Ce) (root : Int) : Bool := rightB ds g root && valB (arsOf ds) g root.toNat
end Go.Proofs.Ytglpehelmlehiaa
/-
  PLAIN FACTS ON REDEXES.
-/
namespace Go.Proofs.Ytglpehelmlehiaa
set_option linter.unusedVariables false
set_option linter.unusedSimpArgs false

def rdI (o : Option Nat) : Int := match o with | some b => (b : Int) | none => 0
/-- 0: there is one; 2: stuck -/
def rdC (o : Option Nat) : Nat := match o with | some _ => 0 | none => 2

theorem redexN_none {ars : List Int} {g : List Ce} {n a : Nat} (h : spine g a = none) : redexN ars g n a = none := by
  cases n with
  | zero => rfl
  | succ n => unfold redexN; rw [h]
theorem redexN_glob {ars : List Int} {g : List Ce} {n a f : Nat} {l : List Nat} (h : spine g a = some (f, l)) (ho : opAt g f = 3) : redexN ars g (n + 1) a = some (callAt f l (arOf ars (numAt g f))) := by
  unfold redexN; rw [h]; exact if_pos ho
theorem redexN_val {ars : List Int} {g : List Ce} {n a f : Nat} {l : List Nat} (h : spine g a = some (f, l)) (ho : opAt g f = 2 ∨ opAt g f = 5) : redexN ars g (n + 1) a = none := by
  unfold redexN; rw [h]
  show (if opAt g f = 3 then _ else if opAt g f = 2 ∨ opAt g f = 5 then _ else _) = _
  rw [if_neg (by omega), if_pos ho]
theorem redexN_op {ars : List Int} {g : List Ce} {n a f : Nat} {l : List Nat} (h : spine g a = some (f, l)) (h3 : opAt g f ≠ 3) (h2 : opAt g f ≠ 2) (h5 : opAt g f ≠ 5) :
    redexN ars g (n + 1) a = (match waits ars g f with | none => none | some none => some f | some (some k) => redexN ars g n k) := by
  conv => lhs; unfold redexN
  rw [h]
  show (if opAt g f = 3 then _ else if opAt g f = 2 ∨ opAt g f = 5 then _ else _) = _
  rw [if_neg h3, if_neg (by omega)]
  all_goals
    cases waits ars g f with
    | none => rfl
    | some o => cases o <;> rfl
/-- the kinds of a cell that is neither application nor indirection -/
theorem op_kinds {g : List Ce} {defs : Int} (h : graphB g defs = true) (f : Nat) (hf : f < g.length) (h4 : g[f].op ≠ 4) (h11 : g[f].op ≠ 11) (h2 : g[f].op ≠ 2) (h3 : g[f].op ≠ 3) (h5 : g[f].op ≠ 5) : (g[f].op = 6 ∨ g[f].op = 7 ∨ g[f].op = 8 ∨ g[f].op = 9 ∨ g[f].op = 10) ∧ (g[f].kids.length : Int) = (if g[f].op = 6 ∨ g[f].op = 7 then 1 else if g[f].op = 10 then 3 else 2) := by
  have hc := graphB_cell h f hf
  have hv := @ownB_var g[f].num defs
  unfold cellB fitsB at hc
  simp only [Bool.and_eq_true, decide_eq_true_eq] at hc
  have h1 : g[f].op ≠ 1 := fun e => by have := hc.1.2; rw [e, hv] at this; cases this
  have hk := hc.1.1
  unfold cArity arity at hk
  rw [if_neg h11] at hk
  generalize g[f].op = o at *
  by_cases a6 : o = 6
  · subst a6; simp at hk ⊢; omega
  by_cases a7 : o = 7
  · subst a7; simp at hk ⊢; omega
  by_cases a8 : o = 8
  · subst a8; simp at hk ⊢; omega
  by_cases a9 : o = 9
  · subst a9; simp at hk ⊢; omega
  by_cases a10 : o = 10
  · subst a10; simp at hk ⊢; omega
  rw [if_neg (by omega), if_neg (by omega), if_neg (by omega), if_neg a10] at hk
  omega
/-- a cell that stands for a value stands for a cell -/
theorem val_follow {ars : List Int} {g : List Ce} {k : Nat} (h : valB ars g k = true) : ∃ b, followN g g.length k = some b := by
  cases hf : followN g g.length k with
  | some b => exact ⟨b, rfl⟩
  | none =>
    have hs : spine g k = none := by unfold spine spineN; rw [hf]
    rw [valB_none hs] at h; cases h
theorem waits1 {ars : List Int} {g : List Ce} {f : Nat} (ho : opAt g f = 6 ∨ opAt g f = 7) : waits ars g f = waitOne ars g (kidAt g f 0) 5 (some none) := by unfold waits; rw [if_pos ho]
theorem waits10 {ars : List Int} {g : List Ce} {f : Nat} (ho : opAt g f = 10) : waits ars g f = waitOne ars g (kidAt g f 0) 2 (some none) := by unfold waits; rw [if_neg (by omega), if_pos ho]
theorem waits2 {ars : List Int} {g : List Ce} {f : Nat} (ho : opAt g f = 8 ∨ opAt g f = 9) : waits ars g f = waitOne ars g (kidAt g f 0) 2 (waitOne ars g (kidAt g f 1) 2 (some none)) := by unfold waits; rw [if_neg (by omega), if_neg (by omega)]
theorem wait_go {ars : List Int} {g : List Ce} {k : Nat} {kind : Int} {r : Option (Option Nat)} (h : valB ars g k = false) : waitOne ars g k kind r = some (some k) := by unfold waitOne; rw [if_pos h]
theorem wait_stuck {ars : List Int} {g : List Ce} {k b : Nat} {kind : Int} {r : Option (Option Nat)} (h : valB ars g k = true) (hf : followN g g.length k = some b) (ho : opAt g b ≠ kind) : waitOne ars g k kind r = none := by
  unfold waitOne kindOf; rw [if_neg (by rw [h]; simp), hf]
  exact if_neg (by simpa using ho)
theorem wait_ok {ars : List Int} {g : List Ce} {k b : Nat} {kind : Int} {r : Option (Option Nat)} (h : valB ars g k = true) (hf : followN g g.length k = some b) (ho : opAt g b = kind) : waitOne ars g k kind r = r := by
  unfold waitOne kindOf; rw [if_neg (by rw [h]; simp), hf]
  exact if_pos (by simpa using ho)
/-- a call's place among the applications -/
theorem call_idx {ds : List Df} {g : List Ce} {a f : Nat} {l : List Nat} {n : Nat} (hs : spine g a = some (f, l)) (ho : opAt g f = 3) (hn : numAt g f = (n : Int)) (hnl : n < ds.length) (hv : valB (arsOf ds) g a = false) : ds[n].1 ≤ l.length := by
  rw [valB_glob hs ho, hn, arOf_at ds n hnl, decide_eq_false_iff_not] at hv
  omega
theorem prog_ar {ds : List Df} (h : progB ds = true) (n : Nat) (hn : n < ds.length) : 0 ≤ ds[n].1 := by
  unfold progB at h
  simp only [Bool.and_eq_true, List.all_eq_true] at h
  have h1 := h.2 _ (List.getElem_mem hn)
  unfold validB at h1
  simp only [Bool.and_eq_true, decide_eq_true_eq] at h1
  omega
theorem callAt_zero {f : Nat} {l : List Nat} : callAt f l 0 = f := by unfold callAt; rw [if_pos rfl]
theorem callAt_at {f : Nat} {l : List Nat} {ar m : Nat} (h0 : ar ≠ 0) (hm : m + ar = l.length) : callAt f l (ar : Int) = l[m]'(by omega) := by
  unfold callAt
  rw [if_neg (by omega), Int.toNat_natCast, show l.length - ar = m by omega, getD_at]

/-! ### Waiting for operands, one after the other -/
def waitsL (ars : List Int) (g : List Ce) (kind : Int) : List Nat → Option (Option Nat)
  | [] => some none
  | k :: ks => waitOne ars g k kind (waitsL ars g kind ks)
/-- how many operands of a kind must have values, and of which kind -/
def manyOf (op : Int) : Nat := if op = 6 ∨ op = 7 ∨ op = 10 then 1 else 2
def kindIn (op : Int) : Int := if op = 6 ∨ op = 7 then 5 else 2
theorem kids_take {g : List Ce} {defs : Int} (h : graphB g defs = true) (f : Nat) (hf : f < g.length) (j : Nat) (hj : j < g[f].kids.length) : (kidsN g f)[j]? = some (kidAt g f j) := by
  obtain ⟨k, h1, h2, h3⟩ := kidsN_get h f hf j hj
  unfold kidAt
  rw [List.getD_eq_getElem?_getD, h3]; rfl
theorem waits_list {ars : List Int} {g : List Ce} {f : Nat} (ho : opAt g f = 6 ∨ opAt g f = 7 ∨ opAt g f = 8 ∨ opAt g f = 9 ∨ opAt g f = 10) :
    waits ars g f = waitsL ars g (kindIn (opAt g f)) (((List.range (manyOf (opAt g f))).map (kidAt g f))) := by
  by_cases h : opAt g f = 6 ∨ opAt g f = 7
  · rw [waits1 h]
    have e1 : manyOf (opAt g f) = 1 := by unfold manyOf; rw [if_pos (by omega)]
    have e2 : kindIn (opAt g f) = 5 := by unfold kindIn; rw [if_pos h]
    rw [e1, e2]; rfl
  · by_cases h10 : opAt g f = 10
    · rw [waits10 h10]
      have e1 : manyOf (opAt g f) = 1 := by unfold manyOf; rw [if_pos (by omega)]
      have e2 : kindIn (opAt g f) = 2 := by unfold kindIn; rw [if_neg h]
      rw [e1, e2]; rfl
    · rw [waits2 (by omega)]
      have e1 : manyOf (opAt g f) = 2 := by unfold manyOf; rw [if_neg (by omega)]
      have e2 : kindIn (opAt g f) = 2 := by unfold kindIn; rw [if_neg h]
      rw [e1, e2]; rfl

theorem waitsL_some {ars : List Int} {g : List Ce} {kind : Int} {kk : Nat} : ∀ (l : List Nat), waitsL ars g kind l = some (some kk) → kk ∈ l ∧ valB ars g kk = false
  | [], h => by simp [waitsL] at h
  | k :: l, h => by
    unfold waitsL waitOne at h
    split at h
    · rename_i hv
      simp only [Option.some.injEq] at h
      subst h
      exact ⟨List.mem_cons_self .., hv⟩
    · split at h
      · have := waitsL_some l h
        exact ⟨List.mem_cons_of_mem _ this.1, this.2⟩
      · cases h

/-! ### What RedexOf answers -/
def rxI (ds : List Df) (g : List Ce) (a : Int) : Int := if rightB ds g a = true then (if valB (arsOf ds) g a.toNat = true then a else rdI (redex (arsOf ds) g a.toNat)) else 0
def rxC (ds : List Df) (g : List Ce) (a : Int) : Int := if rightB ds g a = true then (if valB (arsOf ds) g a.toNat = true then 0 else (rdC (redex (arsOf ds) g a.toNat) : Int)) else 4
theorem rx_no {ds : List Df} {g : List Ce} {a : Int} (h : rightB ds g a = false) : rxI ds g a = 0 ∧ rxC ds g a = 4 := by
  unfold rxI rxC; rw [if_neg (by rw [h]; simp), if_neg (by rw [h]; simp)]; exact ⟨rfl, rfl⟩
theorem rx_val {ds : List Df} {g : List Ce} {a : Nat} (h : rightB ds g (a : Int) = true) (hv : valB (arsOf ds) g a = true) : rxI ds g (a : Int) = a ∧ rxC ds g (a : Int) = 0 := by
  unfold rxI rxC; rw [if_pos h, if_pos h, Int.toNat_natCast, if_pos hv, if_pos hv]; exact ⟨rfl, rfl⟩
theorem rx_red {ds : List Df} {g : List Ce} {a : Nat} (h : rightB ds g (a : Int) = true) (hv : valB (arsOf ds) g a = false) : rxI ds g (a : Int) = rdI (redex (arsOf ds) g a) ∧ rxC ds g (a : Int) = (rdC (redex (arsOf ds) g a) : Int) := by
  unfold rxI rxC; rw [if_pos h, if_pos h, Int.toNat_natCast, if_neg (by rw [hv]; simp), if_neg (by rw [hv]; simp)]; exact ⟨rfl, rfl⟩
theorem right_parts {ds : List Df} {g : List Ce} {a : Int} (h : rightB ds g a = true) : progB ds = true ∧ graphB g ds.length = true ∧ 0 ≤ a ∧ a < g.length := by
  unfold rightB isAt at h
  simp only [Bool.and_eq_true, decide_eq_true_eq] at h
  exact ⟨h.1, h.2.1, h.2.2⟩
end Go.Proofs.Ytglpehelmlehiaa
/-
  PLAIN: what a step makes of a graph. No program is named here.
-/
namespace Go.Proofs.Ytglpehelmlehiaa
set_option linter.unusedVariables false
set_option linter.unusedSimpArgs false

/-! ### Spines of the applications of a spine -/
theorem spineN_mono {g : List Ce} : ∀ (n a : Nat) (x : Nat × List Nat), spineN g n a = some x → spineN g (n + 1) a = some x
  | 0, _, _, h => by simp [spineN] at h
  | n + 1, a, x, h => by
    unfold spineN at h ⊢
    cases hf : followN g g.length a with
    | none => rw [hf] at h; simp at h
    | some f =>
      rw [hf] at h
      simp only at h ⊢
      split
      · rename_i h4
        rw [if_pos h4] at h
        obtain ⟨y, h1, h2⟩ := Option.map_eq_some_iff.1 h
        rw [spineN_mono n _ y h1]
        simp [h2]
      · rename_i h4
        rw [if_neg h4] at h
        exact h
theorem spineN_more {g : List Ce} {n a : Nat} {x : Nat × List Nat} (h : spineN g n a = some x) : ∀ m, n ≤ m → spineN g m a = some x := by
  intro m hm
  induction m with
  | zero => obtain rfl : n = 0 := by omega
            exact h
  | succ m ih =>
    rcases Nat.lt_or_ge n (m + 1) with h1 | h1
    · exact spineN_mono _ _ _ (ih (by omega))
    · obtain rfl : n = m + 1 := by omega
      exact h
theorem follow_self {g : List Ce} {f : Nat} (hf : f < g.length) (h11 : opAt g f ≠ 11) : followN g g.length f = some f := by
  obtain ⟨n, hn⟩ : ∃ n, g.length = n + 1 := ⟨g.length - 1, by omega⟩
  rw [hn]; exact followN_stop h11
theorem spineN_drop {g : List Ce} {defs : Int} (hg : graphB g defs = true) : ∀ (n a f : Nat) (l : List Nat), a < g.length → spineN g n a = some (f, l) → ∀ q (hq : q < l.length), spineN g n l[q] = some (f, l.drop q)
  | 0, _, _, _, _, h, _, _ => by simp [spineN] at h
  | n + 1, a, f, l, ha, h, q, hq => by
    unfold spineN at h
    cases hf : followN g g.length a with
    | none => rw [hf] at h; simp at h
    | some b =>
      rw [hf] at h
      have hb := followN_lt hg _ _ _ ha hf
      simp only at h
      split at h
      · rename_i h4
        obtain ⟨⟨f', l'⟩, h1, h2⟩ := Option.map_eq_some_iff.1 h
        simp only [Prod.mk.injEq] at h2
        obtain ⟨rfl, rfl⟩ := h2
        have hk : kidAt g b 0 < g.length := by
          refine (kidAt_get hg b hb.1 0 ?_).2
          have := kids_count hg b hb.1
          rw [opAt_at b hb.1] at h4
          rw [h4] at this
          have e : cArity 4 = 2 := by decide
          omega
        cases q with
        | zero =>
          simp only [List.getElem_cons_zero, List.drop_zero]
          unfold spineN
          rw [follow_self hb.1 hb.2]
          simp only [h4, if_true, h1, Option.map_some]
        | succ q =>
          simp only [List.getElem_cons_succ, List.drop_succ_cons]
          exact spineN_mono _ _ _ (spineN_drop hg n _ _ _ hk h1 q (by simpa using hq))
      · simp only [Option.some.injEq, Prod.mk.injEq] at h
        obtain ⟨rfl, rfl⟩ := h
        simp at hq
theorem spine_drop {g : List Ce} {defs : Int} (hg : graphB g defs = true) {a f : Nat} {l : List Nat} (ha : a < g.length) (h : spine g a = some (f, l)) (q : Nat) (hq : q < l.length) : spine g l[q] = some (f, l.drop q) := spineN_drop hg _ _ _ _ ha h q hq

/-! ### Redexes are ready -/
/-- a call with just its arguments -/
def CallReady (ds : List Df) (g : List Ce) (at' : Nat) : Prop := (opAt g at' = 3 ∨ opAt g at' = 4) ∧ ∃ (f : Nat) (l : List Nat) (n : Nat), spine g at' = some (f, l) ∧ opAt g f = 3 ∧ numAt g f = (n : Int) ∧ ∃ h : n < ds.length, ds[n].1 = (l.length : Int)
def OpReady (g : List Ce) (at' : Nat) : Prop :=
  ((opAt g at' = 6 ∨ opAt g at' = 7) ∧ ∃ b, followN g g.length (kidAt g at' 0) = some b ∧ opAt g b = 5) ∨
  (opAt g at' = 10 ∧ ∃ b, followN g g.length (kidAt g at' 0) = some b ∧ opAt g b = 2) ∨
  ((opAt g at' = 8 ∨ opAt g at' = 9) ∧ (∃ b, followN g g.length (kidAt g at' 0) = some b ∧ opAt g b = 2) ∧ ∃ b, followN g g.length (kidAt g at' 1) = some b ∧ opAt g b = 2)
def Ready (ds : List Df) (g : List Ce) (at' : Nat) : Prop := at' < g.length ∧ (CallReady ds g at' ∨ OpReady g at')
theorem waitOne_none {ars : List Int} {g : List Ce} {k : Nat} {kind : Int} {r : Option (Option Nat)} (h : waitOne ars g k kind r = some none) : (∃ b, followN g g.length k = some b ∧ opAt g b = kind) ∧ r = some none := by
  unfold waitOne at h
  split at h
  · simp at h
  · split at h
    · rename_i h2
      unfold kindOf at h2
      obtain ⟨b, h3, h4⟩ := Option.map_eq_some_iff.1 h2
      exact ⟨⟨b, h3, h4⟩, h⟩
    · cases h
theorem redexN_ready {ds : List Df} {g : List Ce} (hg : graphB g ds.length = true) (hp : progB ds = true) : ∀ (n a at' : Nat), a < g.length → valB (arsOf ds) g a = false → redexN (arsOf ds) g n a = some at' → Ready ds g at'
  | 0, _, _, _, _, h => by simp [redexN] at h
  | n + 1, a, at', ha, hv, h => by
    cases hs : spine g a with
    | none => rw [redexN_none hs] at h; cases h
    | some x =>
      obtain ⟨f, l⟩ := x
      have hok := spine_ok hg ha hs
      have hff := hok.1
      have hop := opAt_at f hff
      by_cases h3 : opAt g f = 3
      · rw [redexN_glob hs h3] at h
        obtain ⟨nn, hn, hnl⟩ := glob_num hg f hff (by rw [← hop]; exact h3)
        have hnl' : nn < ds.length := by omega
        have hna : numAt g f = (nn : Int) := by rw [numAt_at f hff]; exact hn
        have hle := call_idx (n := nn) hs h3 hna hnl' hv
        have h0 := prog_ar hp nn hnl'
        rw [hna, arOf_at ds nn hnl'] at h
        obtain ⟨ar, har⟩ : ∃ ar : Nat, ds[nn].1 = (ar : Int) := ⟨ds[nn].1.toNat, by omega⟩
        rw [har] at h hle
        simp only [Option.some.injEq] at h
        by_cases hz : ar = 0
        · subst hz
          rw [Int.ofNat_zero, callAt_zero] at h
          subst h
          exact ⟨hff, Or.inl ⟨Or.inl h3, f, [], nn, spine_self hff hok.2.1 hok.2.2.1, h3, hna, hnl', har⟩⟩
        · obtain ⟨q, hq⟩ : ∃ q, q + ar = l.length := ⟨l.length - ar, by omega⟩
          have hql : q < l.length := by omega
          rw [callAt_at hz hq] at h
          subst h
          have hm := hok.2.2.2.1 l[q] (List.getElem_mem hql)
          refine ⟨hm.1, Or.inl ⟨Or.inr hm.2, f, l.drop q, nn, spine_drop hg ha hs q hql, h3, hna, hnl', ?_⟩⟩
          rw [har, List.length_drop]; omega
      · by_cases h25 : opAt g f = 2 ∨ opAt g f = 5
        · rw [redexN_val hs h25] at h; cases h
        · rw [redexN_op hs h3 (by omega) (by omega)] at h
          have hk := op_kinds hg f hff (by rw [← hop]; exact hok.2.1) (by rw [← hop]; exact hok.2.2.1) (by rw [← hop]; omega) (by rw [← hop]; exact h3) (by rw [← hop]; omega)
          rw [← hop] at hk
          cases hw : waits (arsOf ds) g f with
          | none => rw [hw] at h; cases h
          | some o =>
            cases o with
            | none =>
              rw [hw] at h
              simp only [Option.some.injEq] at h
              subst h
              refine ⟨hff, Or.inr ?_⟩
              by_cases h67 : opAt g f = 6 ∨ opAt g f = 7
              · rw [waits1 h67] at hw
                exact Or.inl ⟨h67, (waitOne_none hw).1⟩
              · by_cases h10 : opAt g f = 10
                · rw [waits10 h10] at hw
                  exact Or.inr (Or.inl ⟨h10, (waitOne_none hw).1⟩)
                · have h89 : opAt g f = 8 ∨ opAt g f = 9 := by omega
                  rw [waits2 h89] at hw
                  have h1 := waitOne_none hw
                  exact Or.inr (Or.inr ⟨h89, h1.1, (waitOne_none h1.2).1⟩)
            | some k =>
              rw [hw] at h
              have hwk : k < g.length ∧ valB (arsOf ds) g k = false := by
                have hmany : manyOf (opAt g f) ≤ g[f].kids.length := by
                  have h2 := hk.2
                  have h1 := hk.1
                  unfold manyOf
                  split at h2 <;> (try split at h2) <;> split <;> omega
                rw [waits_list hk.1] at hw
                obtain ⟨m1, m2⟩ := waitsL_some _ hw
                simp only [List.mem_map, List.mem_range] at m1
                obtain ⟨j, hj, rfl⟩ := m1
                exact ⟨(kidAt_get hg f hff j (by omega)).2, m2⟩
              exact redexN_ready hg hp n k at' hwk.1 hwk.2 h
theorem redex_ready {ds : List Df} {g : List Ce} (hg : graphB g ds.length = true) (hp : progB ds = true) {a at' : Nat} (ha : a < g.length) (hv : valB (arsOf ds) g a = false) (h : redex (arsOf ds) g a = some at') : Ready ds g at' := redexN_ready hg hp _ _ _ ha hv h

/-! ### What a step makes -/
def argsL (g : List Ce) (l : List Nat) : List Nat := (l.map fun a => kidAt g a 1).reverse
def indTo (k : Nat) : Ce := ⟨11, 0, [(k : Int)]⟩
def numC (n : Int) : Ce := ⟨2, n, []⟩
def numberOf (op a b : Int) : Int := if op = 9 then (a + (1000 - b)) % 1000 else (a + b) % 1000
def folAt (g : List Ce) (k : Nat) : Nat := (followN g g.length k).getD 0
theorem folAt_some {g : List Ce} {k b : Nat} (h : followN g g.length k = some b) : folAt g k = b := by unfold folAt; rw [h]; rfl
def bodyAt (ds : List Df) (n : Int) : Tr := (ds.getD n.toNat (0, .node 0 0 [])).2
def callR (ds : List Df) (g : List Ce) (at' : Nat) : List Ce × Nat := match spine g at' with
  | none => (g, 0)
  | some (f, l) => addT (argsL g l) (bodyAt ds (numAt g f)) g
def callG (ds : List Df) (g : List Ce) (at' : Nat) : List Ce × Nat := if (callR ds g at').1.length ≤ 400 then ((callR ds g at').1.set at' (indTo (callR ds g at').2), 0) else (g, 3)
def opCell (g : List Ce) (at' : Nat) : Ce :=
  if opAt g at' = 6 then indTo (kidAt g (folAt g (kidAt g at' 0)) 0)
  else if opAt g at' = 7 then indTo (kidAt g (folAt g (kidAt g at' 0)) 1)
  else if opAt g at' = 10 then indTo (if numAt g (folAt g (kidAt g at' 0)) = 0 then kidAt g at' 1 else kidAt g at' 2)
  else numC (numberOf (opAt g at') (numAt g (folAt g (kidAt g at' 0))) (numAt g (folAt g (kidAt g at' 1))))
def changeG (ds : List Df) (g : List Ce) (at' : Nat) : List Ce × Nat := if opAt g at' = 3 ∨ opAt g at' = 4 then callG ds g at' else (g.set at' (opCell g at'), 0)
def stepG (ds : List Df) (g : List Ce) (a : Nat) : List Ce × Nat := match redex (arsOf ds) g a with
  | none => (g, 2)
  | some at' => changeG ds g at'
/-- steps until there is a value: the graph, the code and the number of steps -/
def evalG (ds : List Df) (a : Nat) : Nat → List Ce → List Ce × Nat × Nat
  | 0, g => if valB (arsOf ds) g a = true then (g, 0, 0) else (g, 1, 0)
  | n + 1, g => if valB (arsOf ds) g a = true then (g, 0, 0) else if (stepG ds g a).2 = 0 then ((evalG ds a n (stepG ds g a).1).1, (evalG ds a n (stepG ds g a).1).2.1, (evalG ds a n (stepG ds g a).1).2.2 + 1) else (g, (stepG ds g a).2, 0)
end Go.Proofs.Ytglpehelmlehiaa
/-
  PLAIN: a step leaves a graph that is valid for the program. No program is named here.
-/
namespace Go.Proofs.Ytglpehelmlehiaa
set_option linter.unusedVariables false
set_option linter.unusedSimpArgs false

/-- cells whose operands are below N -/
def GOk (defs : Int) (N : Nat) (g : List Ce) : Prop := ∀ c ∈ g, fitsB defs c = true ∧ ∀ k ∈ c.kids, 0 ≤ k ∧ k < (N : Int)
theorem GOk.mono {defs : Int} {N M : Nat} {g : List Ce} (h : GOk defs N g) (hm : N ≤ M) : GOk defs M g := fun c hc => ⟨(h c hc).1, fun k hk => by have := (h c hc).2 k hk; omega⟩
theorem graphB_iff {g : List Ce} {defs : Int} : graphB g defs = true ↔ ((g.length : Int) ≤ 400 ∧ 0 ≤ defs ∧ defs ≤ 6) ∧ GOk defs g.length g := by
  unfold graphB GOk cellB
  simp only [Bool.and_eq_true, decide_eq_true_eq, List.all_eq_true, isAt]
theorem own_novar {op n vars defs : Int} (h : op ≠ 1) (ho : ownB op n vars defs = true) : ownB op n 0 defs = true := by
  unfold ownB at ho ⊢
  rw [if_neg h] at ho ⊢
  exact ho
mutual
theorem addT_ok {defs : Int} {args : List Nat} : ∀ (d : Nat) (t : Tr) (g : List Ce), GOk defs g.length g → (∀ x ∈ args, x < g.length) → shB args.length defs d t = true → GOk defs (addT args t g).1.length (addT args t g).1 ∧ (addT args t g).2 < (addT args t g).1.length
  | 0, t, g, _, _, h => by simp [shB] at h
  | d + 1, .node op n ks, g, hg, ha, h => by
    simp only [shB, Bool.and_eq_true, decide_eq_true_eq, List.all_eq_true, Tr.kids_node, Tr.op_node, Tr.num_node] at h
    obtain ⟨⟨h1, h2⟩, h3⟩ := h
    by_cases hop : op = 1
    · rw [addT_var (t := .node op n ks) g hop]
      refine ⟨hg, ?_⟩
      unfold ownB at h2
      rw [if_pos hop] at h2
      simp only [decide_eq_true_eq] at h2
      have hlt : n.toNat < args.length := by omega
      show args.getD n.toNat 0 < g.length
      rw [getD_at _ _ _ hlt]
      exact ha _ (List.getElem_mem hlt)
    · obtain ⟨k1, k2⟩ := addL_ok d ks g hg ha h3
      have hl := addL_length args ks g
      rw [addT_other (t := .node op n ks) g hop]
      simp only [Tr.op_node, Tr.num_node, Tr.kids_node]
      refine ⟨fun c hc => ?_, by simp⟩
      rw [List.length_append, List.length_cons, List.length_nil]
      rcases List.mem_append.1 hc with hc | hc
      · exact ⟨(k1 c hc).1, fun k hk => by have := (k1 c hc).2 k hk; omega⟩
      · simp only [List.mem_singleton] at hc
        subst hc
        refine ⟨?_, fun k hk => ?_⟩
        · unfold fitsB
          simp only [Bool.and_eq_true, decide_eq_true_eq, List.length_map, hl]
          refine ⟨?_, own_novar hop h2⟩
          have h11 : op ≠ 11 := fun e => by subst e; simp [arity] at h1
          unfold cArity
          rw [if_neg h11]
          exact of_decide_eq_true h1
        · simp only [List.mem_map] at hk
          obtain ⟨x, hx, rfl⟩ := hk
          have := k2 x hx
          omega
theorem addL_ok {defs : Int} {args : List Nat} : ∀ (d : Nat) (ts : List Tr) (g : List Ce), GOk defs g.length g → (∀ x ∈ args, x < g.length) → (∀ t ∈ ts, shB args.length defs d t = true) → GOk defs (addL args ts g).1.length (addL args ts g).1 ∧ ∀ k ∈ (addL args ts g).2, k < (addL args ts g).1.length
  | d, [], g, hg, _, _ => by simp only [addL]; exact ⟨hg, by simp⟩
  | d, t :: ts, g, hg, ha, h => by
    obtain ⟨k1, k2⟩ := addT_ok d t g hg ha (h t (List.mem_cons_self ..))
    have hs := (addT_size args t g).1
    obtain ⟨m1, m2⟩ := addL_ok d ts (addT args t g).1 k1 (fun x hx => Nat.lt_of_lt_of_le (ha x hx) hs) fun t' ht' => h t' (List.mem_cons_of_mem _ ht')
    have hs2 := (addL_size args ts (addT args t g).1).1
    simp only [addL]
    refine ⟨m1, fun k hk => ?_⟩
    rcases List.mem_cons.1 hk with rfl | hk
    · omega
    · exact m2 k hk
end
theorem GOk.set {defs : Int} {N : Nat} {g : List Ce} (h : GOk defs N g) (i : Nat) (c : Ce) (hc : fitsB defs c = true ∧ ∀ k ∈ c.kids, 0 ≤ k ∧ k < (N : Int)) : GOk defs N (g.set i c) := by
  intro d hd
  rcases List.mem_or_eq_of_mem_set hd with hd | rfl
  · exact h d hd
  · exact hc
theorem ind_fits {defs : Int} {N k : Nat} (hk : k < N) : fitsB defs (indTo k) = true ∧ ∀ x ∈ (indTo k).kids, 0 ≤ x ∧ x < (N : Int) := by
  refine ⟨?_, fun x hx => ?_⟩
  · unfold fitsB indTo cArity ownB; simp
  · unfold indTo at hx; simp at hx; subst hx; omega
theorem num_fits {defs : Int} {N : Nat} {n : Int} (h0 : 0 ≤ n) (h1 : n ≤ 999) : fitsB defs (numC n) = true ∧ ∀ x ∈ (numC n).kids, 0 ≤ x ∧ x < (N : Int) := by
  refine ⟨?_, fun x hx => ?_⟩
  · unfold fitsB numC cArity arity ownB; simp; omega
  · unfold numC at hx; simp at hx
theorem numberOf_range (op a b : Int) : 0 ≤ numberOf op a b ∧ numberOf op a b ≤ 999 := by unfold numberOf; split <;> omega
theorem kids_op {g : List Ce} {defs : Int} (hg : graphB g defs = true) (f : Nat) (hf : f < g.length) : (g[f].kids.length : Int) = cArity (opAt g f) := by rw [opAt_at f hf]; exact kids_count hg f hf
theorem kidAt_lt {g : List Ce} {defs : Int} (hg : graphB g defs = true) (f j : Nat) (hf : f < g.length) (h : (j : Int) < cArity (opAt g f)) : kidAt g f j < g.length := by
  have h1 := kids_op hg f hf
  exact (kidAt_get hg f hf j (by omega)).2
theorem argsL_lt {g : List Ce} {defs : Int} (hg : graphB g defs = true) {l : List Nat} (h : ∀ k ∈ l, k < g.length ∧ opAt g k = 4) : ∀ x ∈ argsL g l, x < g.length := by
  intro x hx
  unfold argsL at hx
  simp only [List.mem_reverse, List.mem_map] at hx
  obtain ⟨a, ha, rfl⟩ := hx
  have h1 := h a ha
  exact kidAt_lt hg a 1 h1.1 (by rw [h1.2]; decide)
theorem bodyAt_at (ds : List Df) (n : Nat) (h : n < ds.length) : bodyAt ds (n : Int) = ds[n].2 := by unfold bodyAt; rw [Int.toNat_natCast, getD_at _ _ _ h]
theorem prog_body {ds : List Df} (h : progB ds = true) (n : Nat) (hn : n < ds.length) : validB ds[n].2 ds[n].1 ds.length = true := by
  unfold progB at h
  simp only [Bool.and_eq_true, List.all_eq_true] at h
  exact h.2 _ (List.getElem_mem hn)
/-- the parts of a call that is ready -/
theorem call_parts {ds : List Df} {g : List Ce} (hg : graphB g ds.length = true) (hp : progB ds = true) {at' f n : Nat} {l : List Nat} (ha : at' < g.length) (hs : spine g at' = some (f, l)) (hn : numAt g f = (n : Int)) (hnl : n < ds.length) (hl : ds[n].1 = (l.length : Int)) :
    callR ds g at' = addT (argsL g l) ds[n].2 g ∧ (argsL g l).length = l.length ∧ shB (argsL g l).length ds.length 16 ds[n].2 = true ∧ 1 + szT ds[n].2 ≤ 60 ∧ l.length ≤ 4 ∧ (∀ x ∈ argsL g l, x < g.length) := by
  have hv := prog_body hp n hnl
  have hlen : (argsL g l).length = l.length := by unfold argsL; simp
  have hok := spine_ok hg ha hs
  unfold validB at hv
  simp only [Bool.and_eq_true, decide_eq_true_eq] at hv
  refine ⟨?_, hlen, by rw [hlen, ← hl]; exact hv.2.1, hv.2.2, by omega, argsL_lt hg hok.2.2.2.1⟩
  unfold callR
  rw [hs]
  show addT (argsL g l) (bodyAt ds (numAt g f)) g = _
  rw [hn, bodyAt_at ds n hnl]
theorem graphB_set {g : List Ce} {defs : Int} (hg : graphB g defs = true) (i : Nat) (c : Ce) (hc : fitsB defs c = true ∧ ∀ k ∈ c.kids, 0 ≤ k ∧ k < (g.length : Int)) : graphB (g.set i c) defs = true := by
  rw [graphB_iff] at hg ⊢
  rw [List.length_set]
  exact ⟨hg.1, hg.2.set i c hc⟩
theorem opCell_fits {ds : List Df} {g : List Ce} (hg : graphB g ds.length = true) {at' : Nat} (ha : at' < g.length) (h : OpReady g at') : fitsB ds.length (opCell g at') = true ∧ ∀ k ∈ (opCell g at').kids, 0 ≤ k ∧ k < (g.length : Int) := by
  unfold opCell
  rcases h with ⟨h67, b, hb, hb5⟩ | ⟨h10, b, hb, hb2⟩ | ⟨h89, ⟨b, hb, hb2⟩, b', hb', hb2'⟩
  · rw [folAt_some hb]
    have hk0 : kidAt g at' 0 < g.length := kidAt_lt hg at' 0 ha (by rcases h67 with h | h <;> rw [h] <;> decide)
    have hbl := (followN_lt hg _ _ _ hk0 hb).1
    have e0 : kidAt g b 0 < g.length := kidAt_lt hg b 0 hbl (by rw [hb5]; decide)
    have e1 : kidAt g b 1 < g.length := kidAt_lt hg b 1 hbl (by rw [hb5]; decide)
    split
    · exact ind_fits e0
    · rw [if_pos (by omega)]; exact ind_fits e1
  · rw [if_neg (by omega), if_neg (by omega), if_pos h10]
    refine ind_fits ?_
    split
    · exact kidAt_lt hg at' 1 ha (by rw [h10]; decide)
    · exact kidAt_lt hg at' 2 ha (by rw [h10]; decide)
  · rw [if_neg (by omega), if_neg (by omega), if_neg (by omega)]
    have := numberOf_range (opAt g at') (numAt g (folAt g (kidAt g at' 0))) (numAt g (folAt g (kidAt g at' 1)))
    exact num_fits this.1 this.2
theorem ready_op {ds : List Df} {g : List Ce} {at' : Nat} (h : OpReady g at') : ¬ (opAt g at' = 3 ∨ opAt g at' = 4) := by
  rcases h with ⟨h, -⟩ | ⟨h, -⟩ | ⟨h, -⟩ <;> omega
theorem changeG_valid {ds : List Df} {g : List Ce} (hg : graphB g ds.length = true) (hp : progB ds = true) {at' : Nat} (h : Ready ds g at') : graphB (changeG ds g at').1 ds.length = true ∧ g.length ≤ (changeG ds g at').1.length := by
  obtain ⟨ha, h | h⟩ := h
  · obtain ⟨ho, f, l, n, hs, h3, hn, hnl, hl⟩ := h
    have hc := call_parts hg hp ha hs hn hnl hl
    unfold changeG
    rw [if_pos ho]
    unfold callG
    split
    · rename_i hle
      have hok := addT_ok (defs := ds.length) (args := argsL g l) 16 ds[n].2 g (graphB_iff.1 hg).2 hc.2.2.2.2.2 hc.2.2.1
      have hsz := (addT_size (argsL g l) ds[n].2 g).1
      have hb := (graphB_iff.1 hg).1
      rw [hc.1] at hle ⊢
      have hg2 : graphB (addT (argsL g l) ds[n].2 g).1 ds.length = true := graphB_iff.2 ⟨⟨by omega, hb.2⟩, hok.1⟩
      exact ⟨graphB_set hg2 _ _ (ind_fits hok.2), by simp only [List.length_set]; exact hsz⟩
    · exact ⟨hg, Nat.le_refl _⟩
  · unfold changeG
    rw [if_neg (ready_op (ds := ds) h)]
    exact ⟨graphB_set hg _ _ (opCell_fits hg ha h), by simp only [List.length_set]; exact Nat.le_refl _⟩
theorem stepG_valid {ds : List Df} {g : List Ce} (hg : graphB g ds.length = true) (hp : progB ds = true) {a : Nat} (ha : a < g.length) (hv : valB (arsOf ds) g a = false) : graphB (stepG ds g a).1 ds.length = true ∧ g.length ≤ (stepG ds g a).1.length := by
  unfold stepG
  cases hr : redex (arsOf ds) g a with
  | none => exact ⟨hg, Nat.le_refl _⟩
  | some at' => exact changeG_valid hg hp (redex_ready hg hp ha hv hr)
theorem evalG_valid {ds : List Df} {a : Nat} (hp : progB ds = true) : ∀ (n : Nat) (g : List Ce), graphB g ds.length = true → a < g.length → graphB (evalG ds a n g).1 ds.length = true ∧ g.length ≤ (evalG ds a n g).1.length
  | 0, g, hg, ha => by unfold evalG; split <;> exact ⟨hg, Nat.le_refl _⟩
  | n + 1, g, hg, ha => by
    unfold evalG
    split
    · exact ⟨hg, Nat.le_refl _⟩
    · rename_i hv
      have h1 := stepG_valid hg hp ha (by simpa using hv)
      split
      · have h2 := evalG_valid (a := a) hp n (stepG ds g a).1 h1.1 (by omega)
        exact ⟨h2.1, Nat.le_trans h1.2 h2.2⟩
      · exact ⟨hg, Nat.le_refl _⟩
end Go.Proofs.Ytglpehelmlehiaa
/-
  A CELL OF A GRAPH THAT IS BEING BUILT, OVERWRITTEN.
-/
namespace Go.Proofs.Ytglpehelmlehiaa
set_option linter.unusedVariables false
set_option linter.unusedSimpArgs false
open Go.RowKit

/-- the world behind the three stores of a cell -/
def st3 (w : World) (b i : Nat) (o m : Int) (kv : Value) : World := ((w.setCell ⟨b, i * 3, none⟩ (.int .i64 o)).setCell ⟨b, i * 3 + 1, none⟩ (.int .i64 m)).setCell ⟨b, i * 3 + 2, none⟩ kv
theorem st3_block {w : World} {b i : Nat} {o m : Int} {kv : Value} {k : Nat} (h : k ≠ b) : (st3 w b i o m kv).heap[k]? = w.heap[k]? := by
  unfold st3
  rw [Below.heap_setCell _ _ _ _ (by exact h), Below.heap_setCell _ _ _ _ (by exact h), Below.heap_setCell _ _ _ _ (by exact h)]
theorem st3_size {w : World} {b i : Nat} {o m : Int} {kv : Value} : (st3 w b i o m kv).heap.size = w.heap.size := by
  unfold st3; rw [size_setCell, size_setCell, size_setCell]
theorem st3_below {w0 w : World} {B b i : Nat} {o m : Int} {kv : Value} (h : Below B w0 w) (hb : B ≤ b) : Below B w0 (st3 w b i o m kv) := ((h.setCell hb _).setCell hb _).setCell hb _
theorem OwnC.setc {w : World} {lo : Nat} {S : Nat → Prop} {g : List Ce} {b cap : Nat} {c : Ce} {kv : Value} {blk : Nat} (h : OwnC w lo S g (.slice (some ⟨b, 0, none⟩) g.length cap)) (i : Nat) (hi : i < g.length)
    (hc : I64 c.op ∧ I64 c.num) (hk : KRowS w (fun x => x = blk) c.kids blk kv) (hS : ¬ S blk) :
    OwnC (st3 w b i c.op c.num kv) lo (fun x => S x ∨ x = blk) (g.set i c) (.slice (some ⟨b, 0, none⟩) g.length cap) := by
  obtain ⟨hi0, xs, kb, h1, h2, h3⟩ := h
  have hx1 := (h1.stored (i * 3) (.int .i64 c.op)).1
  have hx2 := (hx1.stored (i * 3 + 1) (.int .i64 c.num)).1
  have hx3 := (hx2.stored (i * 3 + 2) kv).1
  have hlen := h1.1
  have hbC : ∃ C, w.heap[b]? = some (.cells C 48 (0, 0)) := by
    rcases h1.2 with ⟨e, -⟩ | ⟨b2, cap2, cur2, e, -, hh, -⟩
    · cases e
    · cases e; exact ⟨cur2, hh⟩
  have keep : ∀ (C : Array Value) (k : Nat), k < w.heap.size → w.heap[k]? = some (.cells C 3 (0, 0)) → (st3 w b i c.op c.num kv).heap[k]? = w.heap[k]? := by
    intro C k _ hC
    refine st3_block fun e => ?_
    subst e
    obtain ⟨C2, hC2⟩ := hbC
    rw [hC] at hC2
    simp at hC2
  have ne : ∀ j (hj : j < g.length), g[j].kids ≠ [] → kb j ≠ blk := by
    intro j hj hne e
    obtain ⟨kv', -, -, -, _, _, _, _, _, h5⟩ := h2 j hj
    rcases h5 with h5 | ⟨f5, -, h6, -⟩
    · exact hne h5
    · exact hS (e ▸ h6)
  refine ⟨fun j hj => ?_, ((xs.set (i * 3) (.int .i64 c.op)).set (i * 3 + 1) (.int .i64 c.num)).set (i * 3 + 2) kv, fun j => if j = i then blk else kb j, ?_, fun j hj => ?_, ?_⟩
  · rw [List.length_set] at hj
    rw [List.getElem_set]
    split
    · exact hc
    · exact hi0 j hj
  · rw [List.length_set]; exact hx3
  · rw [List.length_set] at hj
    by_cases hji : j = i
    · subst hji
      refine ⟨kv, ?_, ?_, ?_, ?_⟩
      · rw [List.getElem_set_self, List.getElem?_set_ne (by omega), List.getElem?_set_ne (by omega), List.getElem?_set_self (by omega)]
      · rw [List.getElem_set_self, List.getElem?_set_ne (by omega), List.getElem?_set_self (by rw [List.length_set]; omega)]
      · rw [List.getElem?_set_self (by rw [List.length_set, List.length_set]; omega)]
      · simp only [if_pos, List.getElem_set_self]
        exact hk.keep (fun k hk _ => Or.inr hk) fun C _ h5 hC => keep C _ h5 hC
    · obtain ⟨kv', e0, e1, e2, e3⟩ := h2 j hj
      have hne : g[j] = (g.set i c)[j]'(by rw [List.length_set]; exact hj) := by rw [List.getElem_set_ne (by omega)]
      refine ⟨kv', ?_, ?_, ?_, ?_⟩
      · rw [← hne, List.getElem?_set_ne (by omega), List.getElem?_set_ne (by omega), List.getElem?_set_ne (by omega)]; exact e0
      · rw [← hne, List.getElem?_set_ne (by omega), List.getElem?_set_ne (by omega), List.getElem?_set_ne (by omega)]; exact e1
      · rw [List.getElem?_set_ne (by omega), List.getElem?_set_ne (by omega), List.getElem?_set_ne (by omega)]; exact e2
      · simp only [if_neg hji]
        rw [← hne]
        exact e3.keep (fun k hk _ => Or.inl hk) fun C _ h5 hC => keep C _ h5 hC
  · intro i1 j1 hi1 hj1 hij ei ej
    rw [List.length_set] at hi1 hj1
    by_cases hii : i1 = i
    · have hji : ¬ j1 = i := by omega
      simp only [if_pos hii, if_neg hji]
      rw [List.getElem_set_ne (by omega)] at ej
      exact (ne j1 hj1 ej).symm
    · rw [List.getElem_set_ne (by omega)] at ei
      by_cases hji : j1 = i
      · simp only [if_neg hii, if_pos hji]
        exact ne i1 hi1 ei
      · rw [List.getElem_set_ne (by omega)] at ej
        simp only [if_neg hii, if_neg hji]
        exact h3 i1 j1 hi1 hj1 hij ei ej
/-- the row of one operand in a new block -/
theorem krow_one (w : World) (k : Nat) : KRowS (w.alloc (.cells #[.int .i64 (k : Int)] 3)) (fun x => x = w.heap.size) [(k : Int)] w.heap.size (.slice (some ⟨w.heap.size, 0, none⟩) 1 1) :=
  ⟨_, 1, rfl, Nat.le_refl _, by simp [maxLen], Or.inr ⟨fun _ => .int .i64 (k : Int), rfl, rfl, ⟨#[.int .i64 (k : Int)], Deep.blk_alloc_new _ _, rfl, fun i hi => by
    obtain rfl : i = 0 := by omega
    rfl⟩, fun i hi => by
    obtain rfl : i = 0 := by simp at hi; omega
    rfl⟩⟩
theorem krow_nil (w : World) (S : Nat → Prop) (blk : Nat) : KRowS w S [] blk (.slice none 0 0) := ⟨_, 0, rfl, Nat.le_refl _, by simp [maxLen], Or.inl rfl⟩
end Go.Proofs.Ytglpehelmlehiaa
