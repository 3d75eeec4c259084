/-
  THE MODEL's ParseProgram, THE WALK.
-/
import Derived.Test.YtjdlfpdljmohiaaMb6
import Derived.Test.YtjdlfpdljmohiaaMb1
import Derived.Test.YtjdlfpdljmohiaaProg
import Derived.Deep.QuietTactic
import Derived.BigQuiet
import Derived.Deep.DeepMust
import Derived.WalkSpells
import Derived.Test.YtjdlfpdljmohiaaMb3
namespace Go.Proofs.Ytjdlfpdljmohiaa
set_option linter.unusedVariables false
set_option linter.unusedSimpArgs false
open Go.RowKit

def PpRes (r : Option (List Df)) (w : World) (e : Ending) (w' : World) : Prop := ∃ v, e = .returned (.tuple #[v, .bool r.isSome]) ∧ DefsOn w' (PN w.heap.size w') (r.getD []) v ∧ Below w.heap.size w w'
theorem PpRes.none {r : Option (List Df)} {w w' : World} {ad : Option Addr} {cap : Nat} (h : r = Option.none) (hc : cap ≤ maxLen) (hb : Below w.heap.size w w') : PpRes r w (.returned (.tuple #[.slice ad 0 cap, .bool false])) w' := by
  subst h
  exact ⟨_, rfl, ⟨ad, cap, rfl, Nat.zero_le _, hc, Or.inl rfl⟩, hb⟩

/-- what the loop keeps -/
structure PqR (w w1 wr : World) (ds : List Df) (ov : Value) : Prop where
  own : OwnDf wr w.heap.size ds ov
  blk : ∀ g, ov.ownBlock = some g → g = w.heap.size + 1 ∨ w1.heap.size ≤ g
  low : Below w.heap.size w wr
  mid : ∀ k, w.heap.size + 2 ≤ k → k < w1.heap.size → wr.heap[k]? = w1.heap[k]?
  size : w1.heap.size ≤ wr.heap.size

set_option maxRecDepth 100000 in
set_option maxHeartbeats 3200000 in
theorem specParseProgram_calls (s : ByteArray) (w : World) (hs : s.size ≤ 1099511627775) :
    Calls Try.prog 93 #[.string s] w (PpRes (parseP s) w) := by
  obtain ⟨r, hr⟩ : ∃ r, r = parseP s := ⟨_, rfl⟩
  rw [← hr]
  have HR := mkHid hr
  have HSZ : Hid (∀ x ∈ cutT s 10 (s.size + 1) 0 0, x.size ≤ 1099511627775) := fun x hx => Nat.le_trans (cutT_small s 10 _ _ _ x hx) hs
  have hcl := cutT_len s 10 (s.size + 1) 0 0
  have hcp := cutT_pos s 10 s.size 0 0 (by omega)
  have HCUT := mkHid fun W => l16Cut_calls s 10 W (by decide) (by omega)
  unfold parseP linesOf at HR
  obtain ⟨ls, hls⟩ : ∃ ls, ls = cutT s 10 (s.size + 1) 0 0 := ⟨_, rfl⟩
  rw [← hls] at HSZ hcl hcp HCUT HR
  obtain ⟨nl, hnl⟩ : ∃ nl, nl = ls.length := ⟨_, rfl⟩
  have HNL := mkHid hnl
  rw [← hnl] at hcl hcp HR
  obtain ⟨L0, hL0⟩ : ∃ L0, L0 = (ls.take (nl - 1)).take 7 := ⟨_, rfl⟩
  rw [← hL0] at HR
  have HL0 := mkHid hL0
  obtain ⟨iE, zE, hiE, hzE, hsE, hbE, hcE⟩ := infoD4
  have HE : Hid (Try.prog.info? 137 = some iE ∧ iE.zero = some zE ∧ iE.size = 4 ∧ iE.bytes = 48 ∧ zE.cells.size = 4) := ⟨hiE, hzE, hsE, hbE, hcE⟩
  clear hr hls hnl hL0 hiE hzE hsE hbE hcE
  go_enter Try.func93, Try.ntmps93
  go_wp2_with fail
  refine (HCUT.out _).mono ?_
  rintro e w1 ⟨lv, rfl, hlv, hb1⟩
  have hs2 : ((w.alloc (.cells #[] 137)).alloc (.cells #[] 137)).heap.size = w.heap.size + 2 := by rw [Deep.nblk_alloc, Deep.nblk_alloc]
  have HB1 := mkHid hb1
  rw [hs2] at hb1 hlv
  have hsw := hb1.size
  rw [hs2] at hsw
  have HBW : Hid (Below w.heap.size w w1) := ((box_below _ _).trans ((box_below _ _).mono (by rw [Deep.nblk_alloc]; omega))).trans (hb1.mono (by omega))
  have HD0 : Hid (w1.heap[w.heap.size + 1]? = some (.cells #[] 137)) := (hb1.block _ (by omega)).trans (by have h := Deep.blk_alloc_new (w.alloc (.cells #[] 137)) (.cells #[] 137); rwa [Deep.nblk_alloc] at h)
  rcases id hlv.2 with ⟨rfl, h0⟩ | ⟨g, cap, cur, rfl, hg, hh, hn, hc, -, -⟩
  · rw [← HNL.out] at h0; omega
  have hgw : g < w1.heap.size := (Array.getElem?_eq_some_iff.1 hh).1
  have HCL : Hid (∀ i (hi : i < ls.length), w1.cell? ⟨g, i, none⟩ = some (.string ls[i])) := fun i hi => by
    rw [World.ownsRow.cellAt hlv i (by rw [Nat.mul_one]; exact hi), List.getElem?_map, List.getElem?_eq_getElem hi]; rfl
  rw [← HNL.out] at hn ⊢
  obtain ⟨n0, hn0⟩ : ∃ n0, n0 = L0.length := ⟨_, rfl⟩
  have hn1 : n0 = min 7 (nl - 1) := by rw [hn0, HL0.out, List.length_take, List.length_take, ← HNL.out]; omega
  have HN0 := mkHid hn0
  have HLI : Hid (∀ i (hi : i < L0.length) (hi' : i < ls.length), L0[i] = ls[i]) := fun i hi hi' => by
    have h : L0[i]? = ls[i]? := by
      have h2 := hi
      rw [HL0.out, List.length_take, List.length_take] at h2
      rw [HL0.out, List.getElem?_take_of_lt (by omega), List.getElem?_take_of_lt (by omega)]
    rw [List.getElem?_eq_getElem hi, List.getElem?_eq_getElem hi'] at h
    exact Option.some.inj h
  unfold maxLen at hc
  clear hlv hb1 hs2 hh hn0
  go_wp2_with fail
  go_loopw [5, 7] (fun ov iv wr => ∃ (i : Nat) (ds : List Df), i ≤ n0 ∧ iv = .int .i64 (i : Int) ∧ Hid (PqR w w1 wr ds ov) ∧ Hid (ds.length = i) ∧ Hid (linesT L0 = (linesT (L0.drop i)).map (ds ++ ·))) (fun _ iv _ => n0 - (intOf iv).toNat)
  case atStart =>
    refine ⟨0, [], Nat.zero_le _, rfl, ⟨⟨[], ⟨rfl, Or.inr ⟨_, 0, #[], rfl, by omega, HD0.out, Nat.le_refl _, by unfold maxLen; omega, rfl, rfl⟩⟩, fun j hj => absurd hj (by simp)⟩, fun b hb => Or.inl ?_, HBW.out, fun _ _ _ => rfl, Nat.le_refl _⟩, rfl, ?_⟩
    · simp only [Value.ownBlock, Option.some.injEq] at hb; omega
    · rw [Hid, List.drop_zero]; cases linesT L0 <;> simp
  case round =>
    obtain ⟨i, ds, hi, rfl, HP, HDL, HLT⟩ := hrel
    by_cases hlt : i < n0
    · have hi1 : (i : Int) < (nl : Int) - 1 := by omega
      have hi2 : (i : Int) ≤ 6 := by omega
      have hil : i < L0.length := by rw [← HN0.out]; exact hlt
      have hil2 : i < ls.length := by rw [← HNL.out]; omega
      obtain ⟨l, hl⟩ : ∃ l, l = ls[i] := ⟨_, rfl⟩
      have hlz : l.size ≤ 1099511627775 := by rw [hl]; exact HSZ.out _ (List.getElem_mem hil2)
      have c0 : wr.cell? ⟨g, i, none⟩ = some (.string l) := by
        rw [World.cell?_of_block (w := w1) (HP.out.mid g hg hgw), hl]; exact HCL.out i hil2
      have HDR : Hid (L0.drop i = l :: L0.drop (i + 1)) := by rw [Hid, List.drop_eq_getElem_cons hil, HLI.out i hil hil2, hl]
      have HRN : Hid (lineT l = none → r = none) := fun h => by
        rw [HR.out, HLT.out, HDR.out, linesT, h]; rfl
      have HRS : Hid (∀ d, lineT l = some d → linesT L0 = (linesT (L0.drop (i + 1))).map ((ds ++ [d]) ++ ·)) := fun d h => by
        rw [HLT.out, HDR.out, linesT, h]
        cases linesT (L0.drop (i + 1)) <;> simp
      clear hl
      by_cases t4 : 4 ≤ l.size
      case neg =>
        have HV : Hid (r = none) := HRN.out (by unfold lineT; rw [if_neg (fun h => t4 h.1)])
        go_wp2_with fail
        go_ret2
        exact PpRes.none HV.out (by simp [maxLen]) HP.out.low
      have h1 : 1 < l.size := by omega
      have h2 : 2 < l.size := by omega
      have t4' : ¬ (l.size : Int) < 4 := by omega
      have hb1 := bN_at h1
      have hb2 := bN_at h2
      obtain ⟨b1, hB1⟩ : ∃ b1, b1 = bN l 1 := ⟨_, rfl⟩
      obtain ⟨b2, hB2⟩ : ∃ b2, b2 = bN l 2 := ⟨_, rfl⟩
      rw [← hB1] at hb1
      rw [← hB2] at hb2
      have HBB := mkHid (And.intro hB1 hB2)
      clear hB1 hB2
      by_cases t48 : 48 ≤ b1
      case neg =>
        have HV : Hid (r = none) := HRN.out (by unfold lineT; rw [if_neg (fun h => t48 (by rw [HBB.out.1]; exact h.2.1))])
        go_wp2_with fail
        go_ret2
        exact PpRes.none HV.out (by simp [maxLen]) HP.out.low
      by_cases t57 : b1 ≤ 57
      case neg =>
        have HV : Hid (r = none) := HRN.out (by unfold lineT; rw [if_neg (fun h => t57 (by rw [HBB.out.1]; exact h.2.2.1))])
        go_wp2_with fail
        go_ret2
        exact PpRes.none HV.out (by simp [maxLen]) HP.out.low
      by_cases t61 : b2 = 61
      case neg =>
        have HV : Hid (r = none) := HRN.out (by unfold lineT; rw [if_neg (fun h => t61 (by rw [HBB.out.2]; exact h.2.2.2.1))])
        have t61' : ((b2 : Int) == 61) = false := by simp; omega
        have t61'' : ((b2 : Int) != 61) = true := by simp; omega
        go_wp2_with fail
        go_ret2
        exact PpRes.none HV.out (by simp [maxLen]) HP.out.low
      have HPC := mkHid (specParseExpr_calls (l.extract 3 l.size) wr (by rw [ByteArray.size_extract]; omega))
      obtain ⟨q, hq⟩ : ∃ q, q = parseE (l.extract 3 l.size) := ⟨_, rfl⟩
      have HQ := mkHid hq
      rw [← hq] at HPC
      obtain ⟨x, ok⟩ := q
      subst t61
      clear hq
      go_wp2_with fail
      refine HPC.out.mono ?_
      rintro e w2 ⟨kv, rfl, hkv, hb2⟩
      obtain ⟨adk, capk, rfl, -, -, -⟩ := id hkv
      have HKV := mkHid hkv
      have HB2 := mkHid hb2
      have HXI : Hid (I64 x.op ∧ I64 x.num) := by
        have h := (parseT_rng (l.extract 3 l.size) 16 0).i64
        have h2 := HQ.out
        unfold parseE at h2
        split at h2
        · rw [Prod.mk.injEq] at h2; rw [h2.1]; exact h
        · rw [Prod.mk.injEq] at h2; rw [h2.1]; exact ⟨⟨by decide, by decide⟩, ⟨by decide, by decide⟩⟩
      obtain ⟨o, ho⟩ : ∃ o, o = x.op := ⟨_, rfl⟩
      obtain ⟨m, hm⟩ : ∃ m, m = x.num := ⟨_, rfl⟩
      obtain ⟨z, hz⟩ : ∃ z, z = x.kids.length := ⟨_, rfl⟩
      simp only [] at HKV ⊢
      rw [← ho, ← hm, ← hz]
      rw [← hz] at HKV
      have HOM := mkHid (And.intro ho hm)
      have HL2 : Hid (Below w.heap.size w (w2.alloc (.cells #[.int .i64 o, .int .i64 m, .slice adk z capk] 30))) := HP.out.low.trans ((hb2.trans ((box_below _ _).mono hb2.size)).mono HP.out.low.size)
      clear hkv hb2 ho hm hz
      cases ok with
      | false =>
        have HV : Hid (r = none) := HRN.out (by unfold lineT; rw [if_neg (fun h => by rw [← HQ.out] at h; exact absurd h.2.2.2.2 Bool.false_ne_true)])
        go_wp2_with fail
        go_ret2
        exact PpRes.none HV.out (by simp [maxLen]) HL2.out
      | true =>
        obtain ⟨A, hA⟩ : ∃ A, A = b1 - 48 := ⟨_, rfl⟩
        have hA9 : A ≤ 9 := by omega
        have hw1 : IntKind.u8.wrap ((b1 : Int) - 48) = (A : Int) := by rw [IntWalk.u8_in _ (by omega)]; omega
        have HV : Hid (linesT L0 = (linesT (L0.drop (i + 1))).map ((ds ++ [((A : Int), x)]) ++ ·)) := HRS.out _ (by
          unfold lineT
          have e := HBB.out
          have q := HQ.out
          rw [← q, ← e.1, ← e.2, if_pos ⟨t4, t48, t57, rfl, rfl⟩, hA])
        obtain ⟨wb, hwb⟩ : ∃ wb, wb = w2.alloc (.cells #[.int .i64 o, .int .i64 m, .slice adk z capk] 30) := ⟨_, rfl⟩
        have HWB := mkHid hwb
        have x0 := box_cell w2 #[.int .i64 o, .int .i64 m, .slice adk z capk] 30 0 _ rfl
        have x1 := box_cell w2 #[.int .i64 o, .int .i64 m, .slice adk z capk] 30 1 _ rfl
        have x2 := box_cell w2 #[.int .i64 o, .int .i64 m, .slice adk z capk] 30 2 _ rfl
        rw [← hwb] at HL2
        clear hA hwb
        go_wp2_with fail
        rw [← HWB.out] at x0 x1 x2 ⊢
        obtain ⟨xs, hx1, hx2⟩ := HP.out.own
        rw [HDL.out] at hx1
        have HBB2 : Hid (Below wr.heap.size wr wb) := by rw [Hid, HWB.out]; exact HB2.out.trans ((box_below _ _).mono HB2.out.size)
        have HWW : Hid (Below wr.heap.size wr (wb.alloc (.cells #[.int .i64 (A : Int), .int .i64 o, .int .i64 m, .slice adk z capk] 137)).drew) := (HBB2.out.alloc HBB2.out.size _).drew
        have HXW : Hid ((wb.alloc (.cells #[.int .i64 (A : Int), .int .i64 o, .int .i64 m, .slice adk z capk] 137)).drew.ownsRow w.heap.size 137 4 u5 i xs) := own_keep hx1 fun k _ hk => HWW.out.block k hk
        have HXT : Hid (∀ (j : Nat) (hj : j < ds.length), ∃ a b c e, xs[j * 4]? = some a ∧ xs[j * 4 + 1]? = some b ∧ xs[j * 4 + 2]? = some c ∧ xs[j * 4 + 3]? = some e ∧ DfOn (wb.alloc (.cells #[.int .i64 (A : Int), .int .i64 o, .int .i64 m, .slice adk z capk] 137)).drew (fun k => PN w.heap.size (wb.alloc (.cells #[.int .i64 (A : Int), .int .i64 o, .int .i64 m, .slice adk z capk] 137)).drew k ∧ some k ≠ u5.ownBlock) ds[j] a b c e) := by
          intro j hj
          obtain ⟨a, b, c, e, e1, e2, e3, e4, e5⟩ := hx2 j hj
          exact ⟨a, b, c, e, e1, e2, e3, e4, e5.mono (fun k hk => ⟨hk.1.go (Nat.le_refl _) (HWW.out.block k hk.1.2.1), hk.2⟩) fun k hk => HWW.out.block k hk.1.2.1⟩
        have HOB : Hid (∀ g, some g = u5.ownBlock → w.heap.size ≤ g ∧ g < wr.heap.size) := fun g e => own_some hx1 g e.symm
        have HXN : Hid (DfOn (wb.alloc (.cells #[.int .i64 (A : Int), .int .i64 o, .int .i64 m, .slice adk z capk] 137)).drew (fun k => PN w.heap.size (wb.alloc (.cells #[.int .i64 (A : Int), .int .i64 o, .int .i64 m, .slice adk z capk] 137)).drew k ∧ some k ≠ u5.ownBlock) ((A : Int), x) (.int .i64 (A : Int)) (.int .i64 o) (.int .i64 m) (.slice adk z capk)) := by
          have hblk : ∀ k, k < w2.heap.size → (wb.alloc (.cells #[.int .i64 (A : Int), .int .i64 o, .int .i64 m, .slice adk z capk] 137)).drew.heap[k]? = w2.heap[k]? := fun k h1 => by
            have h3 : wb.heap.size = w2.heap.size + 1 := by rw [HWB.out, Deep.nblk_alloc]
            refine (Deep.blk_alloc_lt wb _ k (by omega)).trans ?_
            rw [HWB.out, Deep.blk_alloc_lt _ _ _ h1]
          refine ⟨rfl, ⟨by show _ ≤ (A : Int); omega, by show (A : Int) ≤ _; omega⟩, trOn_iff.2 ⟨by rw [HOM.out.1], by rw [HOM.out.2], HXI.out.1, HXI.out.2, HKV.out.mono (fun k hk => ⟨hk.go HP.out.low.size (hblk k hk.2.1), fun e => ?_⟩) fun k hk => hblk k hk.2.1⟩⟩
          have h1 : wr.heap.size ≤ k := hk.1
          have := (HOB.out k e).2
          omega
        have HSB : Hid (w.heap.size ≤ (wb.alloc (.cells #[.int .i64 (A : Int), .int .i64 o, .int .i64 m, .slice adk z capk] 137)).drew.heap.size) := Nat.le_trans HP.out.low.size HWW.out.size
        have hi6 : i ≤ 6 := by omega
        have hw2 : IntKind.i64.wrap (A : Int) = (A : Int) := IntWalk.i64_in _ (by omega)
        have HN1 := mkHid hn1
        clear hx1 hx2
        go_region_law (go_must (refine step_append_where rfl (.tmp 58) (.tmp 65) 67 rfl w.heap.size 137 iE zE 4 48 Try.underlying67 HE.out.1 HE.out.2.1 HE.out.2.2.1 HE.out.2.2.2.1 HE.out.2.2.2.2 (by decide) u5 i xs (by simp [Act.eval, Act.put]) HXW.out ⟨wb.heap.size, 0, none⟩ 1 1 [.int .i64 (A : Int), .int .i64 o, .int .i64 m, .slice adk z capk] (by simp [Act.eval, Act.put]) rfl (fun j u hu => by rw [WideShapes.add_plain, Nat.zero_add]; exact box_cell wb #[.int .i64 (A : Int), .int .i64 o, .int .i64 m, .slice adk z capk] _ j u (by simpa using hu)) (by simp [Value.oneCell']) (by unfold maxLen; omega) (by omega) HSB.out (by omega) ?_); go_must (intro v' w3 hown hg hw); go_must (have HX3 := mkHid hown); go_must (have HG3 := mkHid hg); go_must (have HW3 := mkHid hw); clear hown hg hw)
        all_goals
          have HP3 : Hid (PqR w w1 w3 (ds ++ [((A : Int), x)]) v') := by
            have hwb2 : wb.heap.size ≤ w3.heap.size := Nat.le_trans (by show wb.heap.size ≤ (wb.alloc _).heap.size; rw [Deep.nblk_alloc]; omega) HG3.out.size
            have hwr : wr.heap.size ≤ w3.heap.size := Nat.le_trans HBB2.out.size hwb2
            refine ⟨OwnDf.step xs (by rw [HDL.out]; exact HXW.out) HSB.out HXT.out HXN.out (by rw [HDL.out]; exact HX3.out) HG3.out HW3.out, fun b hb => ?_, ?_, fun k h1 h2 => ?_, Nat.le_trans HP.out.size hwr⟩
            · rcases HW3.out with h | ⟨b', h, hge⟩
              · exact HP.out.blk b (h ▸ hb)
              · rw [h] at hb
                obtain rfl := Option.some.inj hb
                exact Or.inr (Nat.le_trans HP.out.size (Nat.le_trans HWW.out.size hge))
            · exact (HP.out.low.trans (HWW.out.mono HP.out.low.size)).grown HG3.out HSB.out fun b e => (HOB.out b e.symm).1
            · have hkw : k < wr.heap.size := Nat.lt_of_lt_of_le h2 HP.out.size
              rw [HG3.out.block k (Nat.lt_of_lt_of_le hkw HWW.out.size) (fun e => by rcases HP.out.blk k e.symm with h | h <;> omega), HWW.out.block k hkw]
              exact HP.out.mid k h1 h2
          have HDL3 : Hid ((ds ++ [((A : Int), x)]).length = i + 1) := by rw [Hid, List.length_append, HDL.out]; rfl
          clear HX3 HG3 HW3
          go_wp2_with fail
          exact ⟨⟨i + 1, ds ++ [((A : Int), x)], hlt, by simp, HP3, HDL3, HV⟩, by simp only [intOf]; omega⟩
    · have hin : i = n0 := by omega
      have HR2 : Hid (r = if progB ds = true ∧ (⟨(progT 0 ds).toArray⟩ : ByteArray) = s then some ds else none) := by
        have e : L0.drop i = [] := List.drop_eq_nil_of_le (by rw [hin, HN0.out]; exact Nat.le_refl _)
        rw [Hid, HR.out, HLT.out, e]; simp [linesT]
      have HDD := mkHid (OwnDf.defs HP.out.own)
      have HDI := mkHid (show DIn wr ds u5 from HDD.out.mono (fun _ hk => hk.2.1) (fun _ _ => rfl))
      have HPV := mkHid (specProg_calls ds u5 wr HDI.out)
      have HPP : Hid (∀ W, Below wr.heap.size wr W → progB ds = true → Calls Try.prog 100 #[u5] W fun e w' => e = .returned (.string ⟨(progT 0 ds).toArray⟩) ∧ Below W.heap.size W w') := fun W h hp => l1Program_calls ds u5 W (HDI.out.next h) hp
      obtain ⟨T, hT⟩ : ∃ T, T = (⟨(progT 0 ds).toArray⟩ : ByteArray) := ⟨_, rfl⟩
      rw [← hT] at HR2 HPP
      have hcond : ((i : Int) < (nl : Int) - 1 ∧ ¬ (i : Int) ≤ 6) ∨ ¬ (i : Int) < (nl : Int) - 1 := by omega
      clear hin hT
      rcases hcond with ⟨hi1, hi2⟩ | hi1
      all_goals
        go_wp2_with fail
        refine HPV.out.mono ?_
        rintro e w2 ⟨rfl, hb2⟩
        have HB2 := mkHid hb2
        clear hb2
        cases hp : progB ds with
        | false =>
          have HV : Hid (r = none) := by rw [Hid, HR2.out, if_neg (fun h => by rw [hp] at h; exact absurd h.1 Bool.false_ne_true)]
          go_wp2_with fail
          go_ret2
          exact PpRes.none HV.out (by simp [maxLen]) (HP.out.low.trans (HB2.out.mono HP.out.low.size))
        | true =>
          have HPC := mkHid (HPP.out w2 HB2.out hp)
          go_wp2_with fail
          refine HPC.out.mono ?_
          rintro e w3 ⟨rfl, hb3⟩
          have HB3 : Hid (Below wr.heap.size wr w3) := HB2.out.trans (hb3.mono HB2.out.size)
          clear hb3
          by_cases hTs : T = s
          · have HV : Hid (r = some ds) := by rw [Hid, HR2.out, if_pos ⟨hp, hTs⟩]
            subst hTs
            go_wp2_with fail
            go_ret2
            rw [HV.out]
            exact ⟨_, rfl, HDD.out.mono (fun k hk => hk.go (Nat.le_refl _) (HB3.out.block k hk.2.1)) (fun k hk => HB3.out.block k hk.2.1), HP.out.low.trans (HB3.out.mono HP.out.low.size)⟩
          · have HV : Hid (r = none) := by rw [Hid, HR2.out, if_neg (fun h => hTs h.2)]
            have m1 : ¬ T.toList = s.toList := fun h => hTs (by
              rw [ByteArray.toList_eq, ByteArray.toList_eq] at h
              cases T; cases s; congr; exact Array.toList_inj.1 h)
            have m2 : (T.toList == s.toList) = false := by simpa using m1
            go_wp2_with fail
            go_ret2
            exact PpRes.none HV.out (by simp [maxLen]) (HP.out.low.trans (HB3.out.mono HP.out.low.size))
end Go.Proofs.Ytjdlfpdljmohiaa
/-
  THE MODEL's READER OF DRAWS (l16Open, pick, num): it answers a number in its range, and changes the reader's own block alone.
-/
namespace Go.Proofs.Ytjdlfpdljmohiaa
set_option linter.unusedVariables false
set_option linter.unusedSimpArgs false
open Go.RowKit

/-- a slice value that holds bytes, in blocks out of S -/
def BytesOn (w : World) (S : Nat → Prop) (len : Nat) (v : Value) : Prop :=
  ∃ ad cap, v = .slice ad len cap ∧ len ≤ cap ∧ cap ≤ maxLen ∧ (len = 0 ∨ ∃ bl off, ad = some ⟨bl, off, none⟩ ∧ S bl ∧ ∀ i, i < len → ∃ z : Int, w.cell? ⟨bl, off + i, none⟩ = some (.int .u8 z) ∧ 0 ≤ z ∧ z ≤ 255)
theorem BytesOn.mono {w w' : World} {S S' : Nat → Prop} {len : Nat} {v : Value} (h : BytesOn w S len v) (hS : ∀ k, S k → S' k) (hw : ∀ k, S k → w'.heap[k]? = w.heap[k]?) : BytesOn w' S' len v := by
  obtain ⟨ad, cap, e, l1, l2, h5⟩ := h
  refine ⟨ad, cap, e, l1, l2, ?_⟩
  rcases h5 with h5 | ⟨bl, off, e, s, r⟩
  · exact Or.inl h5
  · refine Or.inr ⟨bl, off, e, hS _ s, fun i hi => ?_⟩
    obtain ⟨z, h1, h2⟩ := r i hi
    exact ⟨z, (World.cell?_of_block (w := w) (hw bl s)).trans h1, h2⟩

/-- all blocks but one are as they were -/
structure But (b : Nat) (w w' : World) : Prop where
  os : w'.os = w.os
  tape : w'.tape = w.tape
  output : w'.output = w.output
  size : w.heap.size ≤ w'.heap.size
  block : ∀ k, k < w.heap.size → k ≠ b → w'.heap[k]? = w.heap[k]?
theorem But.refl (b : Nat) (w : World) : But b w w := ⟨rfl, rfl, rfl, Nat.le_refl _, fun _ _ _ => rfl⟩
theorem But.trans {b : Nat} {a c d : World} (h : But b a c) (k : But b c d) : But b a d :=
  ⟨k.os.trans h.os, k.tape.trans h.tape, k.output.trans h.output, Nat.le_trans h.size k.size, fun i hi hb => (k.block i (Nat.lt_of_lt_of_le hi h.size) hb).trans (h.block i hi hb)⟩
theorem But.of_below {b : Nat} {w w' : World} (h : Below w.heap.size w w') : But b w w' := ⟨h.os, h.tape, h.output, h.size, fun k hk _ => h.block k hk⟩
theorem But.below {b B : Nat} {w w' : World} (h : But b w w') (hb : B ≤ b) (hB : B ≤ w.heap.size) : Below B w w' := ⟨h.os, h.tape, h.output, h.size, fun k hk => h.block k (by omega) (by omega)⟩
theorem But.setCell (b : Nat) (w : World) (o : Nat) (s : Option Nat) (u : Value) : But b w (w.setCell ⟨b, o, s⟩ u) :=
  ⟨rfl, rfl, rfl, by simp [World.setCell], fun k hk hb => Below.heap_setCell _ _ _ _ hb⟩
theorem But.setNew {b : Nat} {w w' : World} (h : But b w w') {a : Addr} (ha : w.heap.size ≤ a.block) (u : Value) : But b w (w'.setCell a u) :=
  ⟨h.os, h.tape, h.output, by rw [size_setCell]; exact h.size, fun k hk hb => (Below.heap_setCell _ _ _ _ (by omega)).trans (h.block k hk hb)⟩
theorem But.drew {b : Nat} {a w : World} (h : But b a w) : But b a w.drew := ⟨h.os, h.tape, h.output, h.size, h.block⟩
theorem But.cell {b : Nat} {w w' : World} (h : But b w w') {p : Addr} (hp : p.block < w.heap.size) (hb : p.block ≠ b) : w'.cell? p = w.cell? p := World.cell?_of_block (w := w) (h.block p.block hp hb)

/-- the reader in block b: its bytes, and how many draws it has made -/
def RdOn (w : World) (b : Nat) (p : Nat) : Prop :=
  ∃ len v, BytesOn w (fun k => k < b) len v ∧ len ≤ 2000 ∧ w.heap[b]? = some (.cells #[v, .int .i64 (p : Int)] 113)
theorem RdOn.lt {w : World} {b p : Nat} (h : RdOn w b p) : b < w.heap.size := by
  obtain ⟨_, _, _, _, h⟩ := h
  exact (Array.getElem?_eq_some_iff.1 h).1
/-- the reader stays while its block does -/
theorem RdOn.next {w w' : World} {b p : Nat} (h : RdOn w b p) (hb : Below w.heap.size w w') : RdOn w' b p := by
  have hlt := h.lt
  obtain ⟨len, v, h1, h2, h3⟩ := h
  exact ⟨len, v, h1.mono (fun k hk => hk) (fun k hk => hb.block k (Nat.lt_trans hk hlt)), h2, (hb.block b hlt).trans h3⟩
theorem RdOn.keep {w w' : World} {b p : Nat} (h : RdOn w b p) (hw : ∀ k, k ≤ b → w'.heap[k]? = w.heap[k]?) : RdOn w' b p := by
  obtain ⟨len, v, h1, h2, h3⟩ := h
  exact ⟨len, v, h1.mono (fun k hk => hk) (fun k hk => hw k (Nat.le_of_lt hk)), h2, (hw b (Nat.le_refl _)).trans h3⟩
theorem RdOn.setCell {w : World} {b p : Nat} (h : RdOn w b p) {a : Addr} (ha : b < a.block) (u : Value) : RdOn (w.setCell a u) b p :=
  h.keep fun k hk => Below.heap_setCell _ _ _ _ (by omega)

theorem RdOn.step {w : World} {b p : Nat} (h : RdOn w b p) : RdOn (w.setCell ⟨b, 1, none⟩ (.int .i64 ((p + 1 : Nat) : Int))) b (p + 1) := by
  have hlt := h.lt
  obtain ⟨len, v, h1, h2, h3⟩ := h
  refine ⟨len, v, h1.mono (fun k hk => hk) (fun k hk => Below.heap_setCell _ _ _ _ (Nat.ne_of_lt hk)), h2, ?_⟩
  simp [World.setCell, Array.getElem?_modify, h3]

/-- pick has answered -/
def Picked (n : Int) (w : World) (b p : Nat) (e : Ending) (w' : World) : Prop :=
  ∃ v : Int, e = .returned (.int .i64 v) ∧ 0 ≤ v ∧ (0 < n → v < n) ∧ (n ≤ 0 → v = 0) ∧ RdOn w' b (p + 1) ∧ But b w w'

theorem picked_of {n v : Int} {w : World} {b p : Nat} (h : RdOn w b p) (h0 : 0 ≤ v) (h1 : 0 < n → v < n) (h2 : n ≤ 0 → v = 0) (d : Nat) (os : Array Obj) :
    Picked n w b p (.returned (.int .i64 v)) (w.setCell ⟨b, 1, none⟩ (.int .i64 ((p : Int) + 1))) := by
  have := h.step
  rw [show ((p + 1 : Nat) : Int) = (p : Int) + 1 by omega] at this
  exact ⟨v, rfl, h0, h1, h2, this, But.setCell _ _ _ _ _⟩

theorem Picked.next {n : Int} {w w' w'' : World} {b p : Nat} {e : Ending} (h : Picked n w b p e w') (hb : Below w'.heap.size w' w'') : Picked n w b p e w'' := by
  obtain ⟨v, h1, h2, h3, h4, h5, h6⟩ := h
  exact ⟨v, h1, h2, h3, h4, h5.next hb, h6.trans (But.of_below hb)⟩

set_option maxHeartbeats 800000 in
theorem pick_none (n : Int) (w : World) (b p : Nat) (h : RdOn w b p) (hp : p ≤ 1099511627776) (hn : n < 1) :
    Calls Try.prog 59 #[.pointer (some ⟨b, 0, none⟩), .int .i64 n] w (Picked n w b p) := by
  have HP : Hid (Picked n w b p (.returned (.int .i64 0)) (w.setCell ⟨b, 1, none⟩ (.int .i64 ((p : Int) + 1)))) := picked_of h (by omega) (by omega) (by omega) 0 #[]
  obtain ⟨len, v, hb, hl, hh⟩ := h
  have c0 : w.cell? ⟨b, 0, none⟩ = some v := by simp [World.cell?, hh]
  have c1 : w.cell? ⟨b, 1, none⟩ = some (.int .i64 p) := by simp [World.cell?, hh]
  have f1 : w.frozen? ⟨b, 1, none⟩ = false := by simp [World.frozen?, hh]
  clear hh hb
  have d1 : decide (n < 1) = true := by simpa using hn
  go_enter Try.func59, Try.ntmps59
  go_wp2_with fail
  go_ret
  exact HP.out

set_option maxHeartbeats 800000 in
theorem pick_empty (n : Int) (w : World) (b p : Nat) (h : RdOn w b p) (hp : p ≤ 1099511627776) (hn : ¬ n < 1) (ad : Option Addr) (cap : Nat) (hv : w.heap[b]? = some (.cells #[.slice ad 0 cap, .int .i64 (p : Int)] 113)) :
    Calls Try.prog 59 #[.pointer (some ⟨b, 0, none⟩), .int .i64 n] w (Picked n w b p) := by
  have HP : Hid (Picked n w b p (.returned (.int .i64 0)) (w.setCell ⟨b, 1, none⟩ (.int .i64 ((p : Int) + 1)))) := picked_of h (by omega) (by omega) (by omega) 0 #[]
  have c0 : w.cell? ⟨b, 0, none⟩ = some (.slice ad 0 cap) := by simp [World.cell?, hv]
  have c1 : w.cell? ⟨b, 1, none⟩ = some (.int .i64 p) := by simp [World.cell?, hv]
  have f1 : w.frozen? ⟨b, 1, none⟩ = false := by simp [World.frozen?, hv]
  clear hv h
  have d1 : decide (n < 1) = false := by simpa using hn
  go_enter Try.func59, Try.ntmps59
  go_wp2_with fail
  go_ret
  exact HP.out

set_option maxHeartbeats 800000 in
theorem pick_byte (n : Int) (w : World) (b p : Nat) (h : RdOn w b p) (hp : p ≤ 1099511627776) (hn : ¬ n < 1) (hn1 : n ≤ 1099511627776) (bl off len cap : Nat) (hv : w.heap[b]? = some (.cells #[.slice (some ⟨bl, off, none⟩) len cap, .int .i64 (p : Int)] 113))
    (hlen : p < len) (hl : len ≤ 2000) (hbl : bl ≠ b) (z : Int) (hz : w.cell? ⟨bl, off + p, none⟩ = some (.int .u8 z)) (hz0 : 0 ≤ z) (hz1 : z ≤ 255) :
    Calls Try.prog 59 #[.pointer (some ⟨b, 0, none⟩), .int .i64 n] w (Picked n w b p) := by
  have HP : Hid (Picked n w b p (.returned (.int .i64 (z % n))) (w.setCell ⟨b, 1, none⟩ (.int .i64 ((p : Int) + 1)))) := picked_of h (Int.emod_nonneg _ (by omega)) (fun _ => Int.emod_lt_of_pos _ (by omega)) (by omega) 0 #[]
  have c0 : w.cell? ⟨b, 0, none⟩ = some (.slice (some ⟨bl, off, none⟩) len cap) := by simp [World.cell?, hv]
  have c1 : w.cell? ⟨b, 1, none⟩ = some (.int .i64 p) := by simp [World.cell?, hv]
  have f1 : w.frozen? ⟨b, 1, none⟩ = false := by simp [World.frozen?, hv]
  clear hv h
  have d1 : decide (n < 1) = false := by simpa using hn
  have l0 : ((len : Int) == 0) = false := by simp; omega
  go_enter Try.func59, Try.ntmps59
  go_wp2_with fail
  go_ret
  exact HP.out

theorem i64_xor_range (a b : Int) (ha : 0 ≤ a ∧ a < 4611686018427387904) (hb : 0 ≤ b ∧ b < 4611686018427387904) : 0 ≤ bits .xor .i64 a b ∧ bits .xor .i64 a b < 4611686018427387904 := by
  obtain ⟨A, rfl⟩ := Int.eq_ofNat_of_zero_le ha.1
  obtain ⟨B, rfl⟩ := Int.eq_ofNat_of_zero_le hb.1
  have hx : A ^^^ B < 2 ^ 62 := Nat.xor_lt_two_pow (by omega) (by omega)
  have h1 : (BitVec.ofInt 64 (A : Int)).toNat = A := by
    rw [BitVec.ofInt_natCast, BitVec.toNat_ofNat]; exact Nat.mod_eq_of_lt (by omega)
  have h2 : (BitVec.ofInt 64 (B : Int)).toNat = B := by
    rw [BitVec.ofInt_natCast, BitVec.toNat_ofNat]; exact Nat.mod_eq_of_lt (by omega)
  show 0 ≤ IntKind.i64.wrap ((BitVec.ofInt 64 (A : Int) ^^^ BitVec.ofInt 64 (B : Int)).toNat : Int) ∧ IntKind.i64.wrap ((BitVec.ofInt 64 (A : Int) ^^^ BitVec.ofInt 64 (B : Int)).toNat : Int) < _
  rw [BitVec.toNat_xor, h1, h2, IntKind.wrap_i64]
  omega

theorem cell_set_other {w : World} {b bl o : Nat} (h : bl ≠ b) (i : Nat) (u : Value) : (w.setCell ⟨b, o, none⟩ u).cell? ⟨bl, i, none⟩ = w.cell? ⟨bl, i, none⟩ :=
  World.cell?_of_block (w := w) (Below.heap_setCell _ _ _ _ h)
theorem cell_set_same {w : World} {b p : Nat} {v : Value} (hv : w.heap[b]? = some (.cells #[v, .int .i64 (p : Int)] 113)) (u : Value) :
    (w.setCell ⟨b, 1, none⟩ u).cell? ⟨b, 0, none⟩ = some v ∧ (w.setCell ⟨b, 1, none⟩ u).cell? ⟨b, 1, none⟩ = some u := by
  constructor <;> simp [World.cell?, World.setCell, Array.getElem?_modify, hv]

set_option maxRecDepth 100000 in
set_option maxHeartbeats 1600000 in
theorem pick_mix (n : Int) (w : World) (b p : Nat) (h : RdOn w b p) (hp : p ≤ 1099511627776) (hn : ¬ n < 1) (hn1 : n ≤ 1099511627776) (bl off len cap : Nat) (hv : w.heap[b]? = some (.cells #[.slice (some ⟨bl, off, none⟩) len cap, .int .i64 (p : Int)] 113))
    (hlen : 0 < len) (hle : len ≤ p) (hl : len ≤ 2000) (hbl : bl ≠ b) (z1 z2 : Int) (hz1 : w.cell? ⟨bl, off + p % len, none⟩ = some (.int .u8 z1)) (hz2 : w.cell? ⟨bl, off + (p * 7 + 3) % len, none⟩ = some (.int .u8 z2)) (hr1 : 0 ≤ z1 ∧ z1 ≤ 255) (hr2 : 0 ≤ z2 ∧ z2 ≤ 255) :
    Calls Try.prog 59 #[.pointer (some ⟨b, 0, none⟩), .int .i64 n] w (Picked n w b p) := by
  have HR : Hid (RdOn w b p) := h
  obtain ⟨r1, r2⟩ := hr1
  obtain ⟨r3, r4⟩ := hr2
  have c0 : w.cell? ⟨b, 0, none⟩ = some (.slice (some ⟨bl, off, none⟩) len cap) := by simp [World.cell?, hv]
  have c1 : w.cell? ⟨b, 1, none⟩ = some (.int .i64 p) := by simp [World.cell?, hv]
  have f1 : w.frozen? ⟨b, 1, none⟩ = false := by simp [World.frozen?, hv]
  have e0 := (cell_set_same hv (.int .i64 ((p : Int) + 1))).1
  have e1 := (cell_set_same hv (.int .i64 ((p : Int) + 1))).2
  have e2 := (cell_set_other (o := 1) hbl (off + p % len) (.int .i64 ((p : Int) + 1))).trans hz1
  have e3 := (cell_set_other (o := 1) hbl (off + (p * 7 + 3) % len) (.int .i64 ((p : Int) + 1))).trans hz2
  clear hv h
  have d1 : decide (n < 1) = false := by simpa using hn
  have l0 : ((len : Int) == 0) = false := by simp; omega
  go_enter Try.func59, Try.ntmps59
  go_wp2_with fail
  have k0 := cell_regrown e0
  have k1 := cell_regrown e1
  have k2 := cell_regrown e2
  have k3 := cell_regrown e3
  clear e0 e1 e2 e3 c0 c1 f1
  have q3 : 0 ≤ (p : Int) / (len : Int) := Int.ediv_nonneg (by omega) (by omega)
  have q3' : (p : Int) / (len : Int) ≤ 1099511627776 := by
    have : ((p / len : Nat) : Int) ≤ 1099511627776 := by have := Nat.div_le_self p len; omega
    simpa using this
  have q1 : 0 ≤ (p : Int) % (len : Int) := Int.emod_nonneg _ (by omega)
  have q1' : (p : Int) % (len : Int) < len := Int.emod_lt_of_pos _ (by omega)
  have q2 : 0 ≤ ((p : Int) * 7 + 3) % (len : Int) := Int.emod_nonneg _ (by omega)
  have q2' : ((p : Int) * 7 + 3) % (len : Int) < len := Int.emod_lt_of_pos _ (by omega)
  refine wp_region_quiet_below (by kernel_rfl) (by kernel_rfl) ?_
  repeat (any_goals (first | go_big_quiet_step (fail) | quiet_step (fail)))
  refine wpQuiet_nil ?_
  intro _ hw'
  obtain ⟨⟨dq, osq⟩, hw''⟩ := hw'
  subst hw''
  clear k0 k1 k2 k3
  have hX : 0 ≤ z1 * 131 + z2 * 1117 + (p : Int) * 29 + (p : Int) / (len : Int) * 53 ∧ z1 * 131 + z2 * 1117 + (p : Int) * 29 + (p : Int) / (len : Int) * 53 < 1125899906842624 := by omega
  generalize z1 * 131 + z2 * 1117 + (p : Int) * 29 + (p : Int) / (len : Int) * 53 = X at *
  obtain ⟨x0, x1⟩ := hX
  have hx := i64_xor_range X (X / 64) ⟨x0, by omega⟩ ⟨by omega, by omega⟩
  obtain ⟨y0, y1⟩ := hx
  go_wp2_with fail
  go_ret
  exact Picked.next (picked_of HR.out (Int.emod_nonneg _ (by omega)) (fun _ => Int.emod_lt_of_pos _ (by omega)) (by omega) 0 #[]) (below_regrown _ _ _)

/-- PICK, FOR EVERY READER -/
theorem pick_calls (n : Int) (w : World) (b p : Nat) (h : RdOn w b p) (hp : p ≤ 1099511627776) (hn1 : n ≤ 1099511627776) :
    Calls Try.prog 59 #[.pointer (some ⟨b, 0, none⟩), .int .i64 n] w (Picked n w b p) := by
  by_cases hn : n < 1
  · exact pick_none n w b p h hp hn
  have h' := h
  obtain ⟨len, v, ⟨ad, cap, rfl, hl, hm, hr⟩, h2, hh⟩ := h'
  rcases hr with rfl | ⟨bl, off, rfl, hs, hr⟩
  · exact pick_empty n w b p h hp hn ad cap hh
  by_cases h0 : len = 0
  · subst h0
    exact pick_empty n w b p h hp hn _ cap hh
  by_cases hpl : p < len
  · obtain ⟨z, hz, z0, z1⟩ := hr p hpl
    exact pick_byte n w b p h hp hn hn1 bl off len cap hh hpl h2 (Nat.ne_of_lt hs) z hz z0 z1
  · obtain ⟨z1, hz1, r1⟩ := hr (p % len) (Nat.mod_lt _ (by omega))
    obtain ⟨z2, hz2, r2⟩ := hr ((p * 7 + 3) % len) (Nat.mod_lt _ (by omega))
    exact pick_mix n w b p h hp hn hn1 bl off len cap hh (by omega) (by omega) h2 (Nat.ne_of_lt hs) z1 z2 hz1 hz2 r1 r2
end Go.Proofs.Ytjdlfpdljmohiaa
/-
  THE MODEL's READER OF DRAWS: num, l16Open.
-/
namespace Go.Proofs.Ytjdlfpdljmohiaa
set_option linter.unusedVariables false
set_option linter.unusedSimpArgs false
open Go.RowKit

/-- a slice value that holds these numbers, in a block other than b -/
def IntsBut (w : World) (b : Nat) (L : List Int) (v : Value) : Prop :=
  ∃ bl off cap, v = .slice (some ⟨bl, off, none⟩) L.length cap ∧ bl ≠ b ∧ bl < w.heap.size ∧ ∀ i (hi : i < L.length), w.cell? ⟨bl, off + i, none⟩ = some (.int .i64 L[i])

/-- num has answered -/
def Numbered (L : List Int) (w : World) (b p : Nat) (e : Ending) (w' : World) : Prop :=
  ∃ x : Int, e = .returned (.int .i64 x) ∧ x ∈ L ∧ RdOn w' b (p + 1) ∧ But b w w'

set_option maxHeartbeats 800000 in
theorem num_calls (L : List Int) (v : Value) (w : World) (b p : Nat) (h : RdOn w b p) (hp : p ≤ 1099511627776) (hv : IntsBut w b L v) (hL : 0 < L.length) (hL1 : L.length ≤ 1000) :
    Calls Try.prog 60 #[.pointer (some ⟨b, 0, none⟩), v] w (Numbered L w b p) := by
  obtain ⟨bl, off, cap, rfl, hb, hlt, hc⟩ := hv
  have HC : Hid (∀ i (hi : i < L.length), w.cell? ⟨bl, off + i, none⟩ = some (.int .i64 L[i])) := hc
  have HR : Hid (RdOn w b p) := h
  clear hc h
  go_enter Try.func60, Try.ntmps60
  go_wp2_with fail
  refine (pick_calls L.length _ b p HR.out hp (by omega)).mono ?_
  rintro e w1 ⟨x, rfl, h0, h1, -, hr1, hb1⟩
  have HR1 : Hid (RdOn w1 b (p + 1)) := hr1
  have HB1 : Hid (But b w w1) := hb1
  have hx : x < L.length := h1 (by omega)
  obtain ⟨k, rfl⟩ := Int.eq_ofNat_of_zero_le h0
  have hk : k < L.length := by omega
  have c1 : w1.cell? ⟨bl, off + k, none⟩ = some (.int .i64 L[k]) := (hb1.cell (p := ⟨bl, off + k, none⟩) hlt hb).trans (HC.out k hk)
  clear h1 hr1 hb1
  go_wp2_with fail
  go_ret
  exact ⟨L[k], rfl, List.getElem_mem hk, HR1.out, HB1.out⟩

/-- a new reader lies in block b -/
def Opened (w : World) (e : Ending) (w' : World) : Prop := e = .returned (.pointer (some ⟨w.heap.size, 0, none⟩)) ∧ RdOn w' w.heap.size 0 ∧ Below w.heap.size w w'

theorem opened_of (w : World) (len : Nat) (v : Value) (h : BytesOn w (Lt w.heap.size) len v) (hl : len ≤ 2000) : Opened w (.returned (.pointer (some ⟨w.heap.size, 0, none⟩))) (w.alloc (.cells #[v, .int .i64 0] 113)) := by
  refine ⟨rfl, ⟨len, v, h.mono (fun k hk => hk) (fun k hk => Deep.blk_alloc_lt _ _ _ hk), hl, ?_⟩, box_below _ _⟩
  exact Deep.blk_alloc_new _ _

set_option maxHeartbeats 800000 in
theorem open_calls (len : Nat) (v : Value) (w : World) (h : BytesOn w (Lt w.heap.size) len v) : Calls Try.prog 57 #[v] w (Opened w) := by
  by_cases hl : 2000 < len
  · have h' := h
    obtain ⟨ad, cap, rfl, h1, h2, h3⟩ := h
    unfold maxLen at h2
    rcases h3 with h3 | ⟨bl, off, rfl, hs, hr⟩
    · omega
    have HO : Hid (Opened w (.returned (.pointer (some ⟨w.heap.size, 0, none⟩))) (w.alloc (.cells #[.slice (some ⟨bl, off, none⟩) 2000 cap, .int .i64 0] 113))) :=
      opened_of w 2000 _ ⟨_, cap, rfl, by omega, by unfold maxLen; omega, Or.inr ⟨bl, off, rfl, hs, fun i hi => hr i (by omega)⟩⟩ (by omega)
    clear hr h'
    go_enter Try.func57, Try.ntmps57
    go_wp2_with fail
    go_ret
    exact HO.out
  · have HO : Hid (Opened w (.returned (.pointer (some ⟨w.heap.size, 0, none⟩))) (w.alloc (.cells #[v, .int .i64 0] 113))) := opened_of w len v h (by omega)
    obtain ⟨ad, cap, rfl, h1, h2, -⟩ := h
    go_enter Try.func57, Try.ntmps57
    go_wp2_with fail
    go_ret
    exact HO.out
end Go.Proofs.Ytjdlfpdljmohiaa
/-
  THE MODEL's l1Texts AND l1Draw: a drawn program is valid, or empty.
-/
namespace Go.Proofs.Ytjdlfpdljmohiaa
set_option linter.unusedVariables false
set_option linter.unusedSimpArgs false
open Go.RowKit

/-- texts in a row: each of them short -/
def TxRow (w w' : World) (e : Ending) : Prop := ∃ g, e = .returned (.slice (some ⟨g, 0, none⟩) 12 12) ∧ w.heap.size ≤ g ∧ g < w'.heap.size ∧ (∀ i, i < 12 → ∃ s : ByteArray, w'.cell? ⟨g, i, none⟩ = some (.string s) ∧ s.size ≤ 1000) ∧ Below w.heap.size w w'
abbrev txC : Array Value := #[.string ⟨#[65, 49, 61, 40, 97, 43, 97, 41, 10, 66, 49, 61, 40, 65, 32, 40, 65, 32, 97, 41, 41, 10]⟩, .string ⟨#[65, 50, 61, 97, 10, 66, 50, 61, 98, 10, 67, 49, 61, 40, 40, 65, 32, 97, 41, 32, 40, 67, 32, 97, 41, 41, 10]⟩, .string ⟨#[65, 49, 61, 91, 97, 63, 49, 58, 40, 97, 43, 40, 65, 32, 40, 97, 45, 49, 41, 41, 41, 93, 10]⟩, .string ⟨#[65, 49, 61, 60, 97, 44, 40, 65, 32, 40, 97, 43, 49, 41, 41, 62, 10, 66, 50, 61, 91, 97, 63, 126, 98, 58, 40, 40, 66, 32, 40, 97, 45, 49, 41, 41, 32, 94, 98, 41, 93, 10]⟩, .string ⟨#[65, 51, 61, 40, 40, 97, 32, 99, 41, 32, 40, 98, 32, 99, 41, 41, 10, 66, 50, 61, 97, 10, 67, 48, 61, 40, 40, 65, 32, 66, 41, 32, 66, 41, 10]⟩, .string ⟨#[65, 49, 61, 60, 94, 97, 44, 126, 97, 62, 10, 66, 49, 61, 40, 126, 97, 43, 94, 97, 41, 10, 67, 49, 61, 40, 66, 32, 40, 65, 32, 60, 97, 44, 50, 62, 41, 41, 10]⟩, .string ⟨#[65, 50, 61, 91, 97, 63, 98, 58, 40, 40, 65, 32, 40, 97, 45, 49, 41, 41, 32, 40, 98, 43, 98, 41, 41, 93, 10]⟩, .string ⟨#[65, 48, 61, 60, 49, 44, 65, 62, 10, 66, 49, 61, 126, 94, 97, 10]⟩, .string ⟨#[65, 50, 61, 40, 97, 32, 98, 41, 10, 66, 49, 61, 40, 40, 65, 32, 67, 41, 32, 97, 41, 10, 67, 49, 61, 40, 97, 45, 51, 41, 10]⟩, .string ⟨#[65, 50, 61, 91, 98, 63, 49, 58, 40, 40, 67, 32, 97, 41, 32, 40, 40, 65, 32, 97, 41, 32, 40, 98, 45, 49, 41, 41, 41, 93, 10, 66, 49, 61, 40, 97, 43, 49, 41, 10, 67, 50, 61, 40, 97, 32, 98, 41, 10]⟩, .string ⟨#[65, 49, 61, 40, 66, 32, 97, 41, 10, 66, 49, 61, 40, 65, 32, 97, 41, 10]⟩, .string ⟨#[]⟩]
theorem txC_at : ∀ i, i < 12 → ∃ s : ByteArray, txC[i]? = some (.string s) ∧ s.size ≤ 1000 := by
  intro i hi
  rcases (by omega : i = 0 ∨ i = 1 ∨ i = 2 ∨ i = 3 ∨ i = 4 ∨ i = 5 ∨ i = 6 ∨ i = 7 ∨ i = 8 ∨ i = 9 ∨ i = 10 ∨ i = 11) with rfl | rfl | rfl | rfl | rfl | rfl | rfl | rfl | rfl | rfl | rfl | rfl <;> exact ⟨_, rfl, by decide⟩

set_option maxRecDepth 100000 in
set_option maxHeartbeats 1600000 in
theorem l1Texts_calls (w : World) : Calls Try.prog 92 #[] w fun e w' => TxRow w w' e := by
  have HT : Hid (TxRow w (w.alloc (.cells txC 9)) (.returned (.slice (some ⟨w.heap.size, 0, none⟩) 12 12))) :=
    ⟨_, rfl, Nat.le_refl _, by rw [Deep.nblk_alloc]; omega, fun i hi => by obtain ⟨s, h1, h2⟩ := txC_at i hi; exact ⟨s, box_cell w _ _ i _ h1, h2⟩, box_below _ _⟩
  go_enter Try.func92, Try.ntmps92
  go_wp2_with fail
  go_ret
  exact HT.out

theorem parseP_valid (s : ByteArray) : progB ((parseP s).getD []) = true := by
  unfold parseP
  cases linesT (linesOf s) with
  | none => rfl
  | some ds =>
    simp only [Option.bind_some]
    split
    · rename_i h; exact h.1
    · rfl
/-- a drawn program -/
def Drawn (w : World) (b p : Nat) (e : Ending) (w' : World) : Prop :=
  ∃ ds v, e = .returned v ∧ progB ds = true ∧ DefsOn w' (PN w.heap.size w') ds v ∧ RdOn w' b (p + 1) ∧ But b w w'

end Go.Proofs.Ytjdlfpdljmohiaa
/-
  THE MODEL's l2Goals: the rows of texts.
-/
namespace Go.Proofs.Ytjdlfpdljmohiaa
set_option linter.unusedVariables false
set_option linter.unusedSimpArgs false
open Go.RowKit

abbrev goC0 : Array Value := #[.string ⟨#[40, 66, 32, 51, 41]⟩, .string ⟨#[40, 65, 32, 40, 66, 32, 49, 41, 41]⟩, .string ⟨#[40, 66, 32, 40, 66, 32, 50, 41, 41]⟩]
abbrev goC1 : Array Value := #[.string ⟨#[40, 40, 65, 32, 49, 41, 32, 40, 67, 32, 50, 41, 41]⟩, .string ⟨#[40, 40, 66, 32, 40, 67, 32, 49, 41, 41, 32, 53, 41]⟩, .string ⟨#[40, 67, 32, 51, 41]⟩]
abbrev goC2 : Array Value := #[.string ⟨#[40, 65, 32, 51, 41]⟩, .string ⟨#[40, 65, 32, 40, 65, 32, 50, 41, 41]⟩, .string ⟨#[40, 65, 32, 48, 41]⟩]
abbrev goC3 : Array Value := #[.string ⟨#[40, 40, 66, 32, 51, 41, 32, 40, 65, 32, 53, 41, 41]⟩, .string ⟨#[126, 40, 65, 32, 49, 41]⟩, .string ⟨#[40, 40, 66, 32, 48, 41, 32, 40, 65, 32, 40, 50, 43, 50, 41, 41, 41]⟩, .string ⟨#[94, 94, 40, 65, 32, 55, 41]⟩]
abbrev goC4 : Array Value := #[.string ⟨#[40, 67, 32, 55, 41]⟩, .string ⟨#[40, 40, 40, 65, 32, 66, 41, 32, 67, 41, 32, 50, 41]⟩, .string ⟨#[40, 67, 32, 40, 67, 32, 52, 41, 41]⟩]
abbrev goC5 : Array Value := #[.string ⟨#[40, 67, 32, 51, 41]⟩, .string ⟨#[40, 66, 32, 40, 65, 32, 60, 52, 44, 57, 62, 41, 41]⟩, .string ⟨#[126, 40, 65, 32, 60, 49, 44, 40, 50, 43, 50, 41, 62, 41]⟩]
abbrev goC6 : Array Value := #[.string ⟨#[40, 40, 65, 32, 51, 41, 32, 49, 41]⟩, .string ⟨#[40, 40, 65, 32, 48, 41, 32, 40, 49, 45, 50, 41, 41]⟩]
abbrev goC7 : Array Value := #[.string ⟨#[40, 66, 32, 65, 41]⟩, .string ⟨#[126, 94, 94, 65]⟩, .string ⟨#[126, 65]⟩]
abbrev goC8 : Array Value := #[.string ⟨#[40, 66, 32, 53, 41]⟩, .string ⟨#[40, 40, 65, 32, 67, 41, 32, 40, 49, 43, 49, 41, 41]⟩, .string ⟨#[40, 65, 32, 49, 41]⟩]
abbrev goC9 : Array Value := #[.string ⟨#[40, 40, 65, 32, 66, 41, 32, 50, 41]⟩, .string ⟨#[40, 40, 65, 32, 40, 67, 32, 66, 41, 41, 32, 50, 41]⟩, .string ⟨#[40, 40, 65, 32, 66, 41, 32, 48, 41]⟩]
abbrev goC10 : Array Value := #[.string ⟨#[40, 65, 32, 49, 41]⟩, .string ⟨#[91, 49, 63, 40, 65, 32, 49, 41, 58, 52, 93]⟩]
abbrev goC11 : Array Value := #[.string ⟨#[40, 40, 50, 43, 51, 41, 45, 54, 41]⟩, .string ⟨#[126, 60, 49, 44, 50, 62]⟩, .string ⟨#[40, 49, 32, 50, 41]⟩, .string ⟨#[91, 48, 63, 49, 58, 50, 93]⟩, .string ⟨#[126, 51]⟩, .string ⟨#[40, 60, 49, 44, 50, 62, 43, 49, 41]⟩]
/-- how many goals a program has -/
def goN (i : Nat) : Nat := ([3, 3, 3, 4, 3, 3, 2, 3, 3, 3, 2, 6] : List Nat).getD i 2
/-- the goals of a program -/
def goL : List (List ByteArray) := [[⟨#[40, 66, 32, 51, 41]⟩, ⟨#[40, 65, 32, 40, 66, 32, 49, 41, 41]⟩, ⟨#[40, 66, 32, 40, 66, 32, 50, 41, 41]⟩], [⟨#[40, 40, 65, 32, 49, 41, 32, 40, 67, 32, 50, 41, 41]⟩, ⟨#[40, 40, 66, 32, 40, 67, 32, 49, 41, 41, 32, 53, 41]⟩, ⟨#[40, 67, 32, 51, 41]⟩], [⟨#[40, 65, 32, 51, 41]⟩, ⟨#[40, 65, 32, 40, 65, 32, 50, 41, 41]⟩, ⟨#[40, 65, 32, 48, 41]⟩], [⟨#[40, 40, 66, 32, 51, 41, 32, 40, 65, 32, 53, 41, 41]⟩, ⟨#[126, 40, 65, 32, 49, 41]⟩, ⟨#[40, 40, 66, 32, 48, 41, 32, 40, 65, 32, 40, 50, 43, 50, 41, 41, 41]⟩, ⟨#[94, 94, 40, 65, 32, 55, 41]⟩], [⟨#[40, 67, 32, 55, 41]⟩, ⟨#[40, 40, 40, 65, 32, 66, 41, 32, 67, 41, 32, 50, 41]⟩, ⟨#[40, 67, 32, 40, 67, 32, 52, 41, 41]⟩], [⟨#[40, 67, 32, 51, 41]⟩, ⟨#[40, 66, 32, 40, 65, 32, 60, 52, 44, 57, 62, 41, 41]⟩, ⟨#[126, 40, 65, 32, 60, 49, 44, 40, 50, 43, 50, 41, 62, 41]⟩], [⟨#[40, 40, 65, 32, 51, 41, 32, 49, 41]⟩, ⟨#[40, 40, 65, 32, 48, 41, 32, 40, 49, 45, 50, 41, 41]⟩], [⟨#[40, 66, 32, 65, 41]⟩, ⟨#[126, 94, 94, 65]⟩, ⟨#[126, 65]⟩], [⟨#[40, 66, 32, 53, 41]⟩, ⟨#[40, 40, 65, 32, 67, 41, 32, 40, 49, 43, 49, 41, 41]⟩, ⟨#[40, 65, 32, 49, 41]⟩], [⟨#[40, 40, 65, 32, 66, 41, 32, 50, 41]⟩, ⟨#[40, 40, 65, 32, 40, 67, 32, 66, 41, 41, 32, 50, 41]⟩, ⟨#[40, 40, 65, 32, 66, 41, 32, 48, 41]⟩], [⟨#[40, 65, 32, 49, 41]⟩, ⟨#[91, 49, 63, 40, 65, 32, 49, 41, 58, 52, 93]⟩], [⟨#[40, 40, 50, 43, 51, 41, 45, 54, 41]⟩, ⟨#[126, 60, 49, 44, 50, 62]⟩, ⟨#[40, 49, 32, 50, 41]⟩, ⟨#[91, 48, 63, 49, 58, 50, 93]⟩, ⟨#[126, 51]⟩, ⟨#[40, 60, 49, 44, 50, 62, 43, 49, 41]⟩]]
def goS (i j : Nat) : ByteArray := (goL.getD i []).getD j ⟨#[]⟩
/-- the texts of programs -/
def txL : List ByteArray := [⟨#[65, 49, 61, 40, 97, 43, 97, 41, 10, 66, 49, 61, 40, 65, 32, 40, 65, 32, 97, 41, 41, 10]⟩, ⟨#[65, 50, 61, 97, 10, 66, 50, 61, 98, 10, 67, 49, 61, 40, 40, 65, 32, 97, 41, 32, 40, 67, 32, 97, 41, 41, 10]⟩, ⟨#[65, 49, 61, 91, 97, 63, 49, 58, 40, 97, 43, 40, 65, 32, 40, 97, 45, 49, 41, 41, 41, 93, 10]⟩, ⟨#[65, 49, 61, 60, 97, 44, 40, 65, 32, 40, 97, 43, 49, 41, 41, 62, 10, 66, 50, 61, 91, 97, 63, 126, 98, 58, 40, 40, 66, 32, 40, 97, 45, 49, 41, 41, 32, 94, 98, 41, 93, 10]⟩, ⟨#[65, 51, 61, 40, 40, 97, 32, 99, 41, 32, 40, 98, 32, 99, 41, 41, 10, 66, 50, 61, 97, 10, 67, 48, 61, 40, 40, 65, 32, 66, 41, 32, 66, 41, 10]⟩, ⟨#[65, 49, 61, 60, 94, 97, 44, 126, 97, 62, 10, 66, 49, 61, 40, 126, 97, 43, 94, 97, 41, 10, 67, 49, 61, 40, 66, 32, 40, 65, 32, 60, 97, 44, 50, 62, 41, 41, 10]⟩, ⟨#[65, 50, 61, 91, 97, 63, 98, 58, 40, 40, 65, 32, 40, 97, 45, 49, 41, 41, 32, 40, 98, 43, 98, 41, 41, 93, 10]⟩, ⟨#[65, 48, 61, 60, 49, 44, 65, 62, 10, 66, 49, 61, 126, 94, 97, 10]⟩, ⟨#[65, 50, 61, 40, 97, 32, 98, 41, 10, 66, 49, 61, 40, 40, 65, 32, 67, 41, 32, 97, 41, 10, 67, 49, 61, 40, 97, 45, 51, 41, 10]⟩, ⟨#[65, 50, 61, 91, 98, 63, 49, 58, 40, 40, 67, 32, 97, 41, 32, 40, 40, 65, 32, 97, 41, 32, 40, 98, 45, 49, 41, 41, 41, 93, 10, 66, 49, 61, 40, 97, 43, 49, 41, 10, 67, 50, 61, 40, 97, 32, 98, 41, 10]⟩, ⟨#[65, 49, 61, 40, 66, 32, 97, 41, 10, 66, 49, 61, 40, 65, 32, 97, 41, 10]⟩, ⟨#[]⟩]
def txS (i : Nat) : ByteArray := txL.getD i ⟨#[]⟩
/-- the texts of programs, in a row -/
def TxAt (w w' : World) (e : Ending) : Prop := ∃ g, e = .returned (.slice (some ⟨g, 0, none⟩) 12 12) ∧ w.heap.size ≤ g ∧ g < w'.heap.size ∧ (∀ i, i < 12 → w'.cell? ⟨g, i, none⟩ = some (.string (txS i))) ∧ Below w.heap.size w w'
theorem txC_txS : ∀ i, i < 12 → txC[i]? = some (.string (txS i)) := by
  intro i hi
  rcases (by omega : i = 0 ∨ i = 1 ∨ i = 2 ∨ i = 3 ∨ i = 4 ∨ i = 5 ∨ i = 6 ∨ i = 7 ∨ i = 8 ∨ i = 9 ∨ i = 10 ∨ i = 11) with rfl | rfl | rfl | rfl | rfl | rfl | rfl | rfl | rfl | rfl | rfl | rfl <;> rfl
theorem txS_size : ∀ i, i < 12 → (txS i).size ≤ 1000 := by
  intro i hi
  rcases (by omega : i = 0 ∨ i = 1 ∨ i = 2 ∨ i = 3 ∨ i = 4 ∨ i = 5 ∨ i = 6 ∨ i = 7 ∨ i = 8 ∨ i = 9 ∨ i = 10 ∨ i = 11) with rfl | rfl | rfl | rfl | rfl | rfl | rfl | rfl | rfl | rfl | rfl | rfl <;> decide
theorem goS_size (i j : Nat) (hi : i < 12) (hj : j < 6) : (goS i j).size ≤ 1000 := by
  rcases (by omega : i = 0 ∨ i = 1 ∨ i = 2 ∨ i = 3 ∨ i = 4 ∨ i = 5 ∨ i = 6 ∨ i = 7 ∨ i = 8 ∨ i = 9 ∨ i = 10 ∨ i = 11) with rfl | rfl | rfl | rfl | rfl | rfl | rfl | rfl | rfl | rfl | rfl | rfl
  all_goals
    rcases (by omega : j = 0 ∨ j = 1 ∨ j = 2 ∨ j = 3 ∨ j = 4 ∨ j = 5) with rfl | rfl | rfl | rfl | rfl | rfl
    all_goals decide
theorem goN_rng : ∀ i, i < 12 → 2 ≤ goN i ∧ goN i ≤ 6 := by
  intro i hi
  rcases (by omega : i = 0 ∨ i = 1 ∨ i = 2 ∨ i = 3 ∨ i = 4 ∨ i = 5 ∨ i = 6 ∨ i = 7 ∨ i = 8 ∨ i = 9 ∨ i = 10 ∨ i = 11) with rfl | rfl | rfl | rfl | rfl | rfl | rfl | rfl | rfl | rfl | rfl | rfl <;> decide
set_option maxRecDepth 100000 in
set_option maxHeartbeats 1600000 in
theorem l1TextsAt_calls (w : World) : Calls Try.prog 92 #[] w fun e w' => TxAt w w' e := by
  have HT : Hid (TxAt w (w.alloc (.cells txC 9)) (.returned (.slice (some ⟨w.heap.size, 0, none⟩) 12 12))) :=
    ⟨_, rfl, Nat.le_refl _, by rw [Deep.nblk_alloc]; omega, fun i hi => box_cell w _ _ i _ (txC_txS i hi), box_below _ _⟩
  go_enter Try.func92, Try.ntmps92
  go_wp2_with fail
  go_ret
  exact HT.out
/-- rows that are laid one behind the other -/
def alls : List Obj → World → World
  | [], w => w
  | o :: os, w => alls os (w.alloc o)
theorem alls_below : ∀ (os : List Obj) (w : World), Below w.heap.size w (alls os w)
  | [], w => Below.refl _ _
  | o :: os, w => (box_below w o).trans ((alls_below os (w.alloc o)).mono (by rw [Deep.nblk_alloc]; omega))
theorem alls_size : ∀ (os : List Obj) (w : World), (alls os w).heap.size = w.heap.size + os.length
  | [], w => rfl
  | o :: os, w => by rw [alls, alls_size os, Deep.nblk_alloc, List.length_cons]; omega
theorem alls_at : ∀ (os : List Obj) (w : World) (i : Nat) (o : Obj), os[i]? = some o → (alls os w).heap[w.heap.size + i]? = some o
  | [], w, i, o, h => by simp at h
  | x :: os, w, 0, o, h => by
    simp at h
    subst h
    exact ((alls_below os (w.alloc x)).block _ (by rw [Deep.nblk_alloc]; omega)).trans (Deep.blk_alloc_new _ _)
  | x :: os, w, i + 1, o, h => by
    have := alls_at os (w.alloc x) i o (by simpa using h)
    rw [Deep.nblk_alloc] at this
    rw [show w.heap.size + (i + 1) = w.heap.size + 1 + i by omega]
    exact this

abbrev goOs : List Obj := [.cells goC0 9, .cells goC1 9, .cells goC2 9, .cells goC3 9, .cells goC4 9, .cells goC5 9, .cells goC6 9, .cells goC7 9, .cells goC8 9, .cells goC9 9, .cells goC10 9, .cells goC11 9]
/-- the rows of goals -/
def GoRow (w : World) (e : Ending) (w' : World) : Prop := ∃ g, e = .returned (.slice (some ⟨g, 0, none⟩) 12 12) ∧ w.heap.size ≤ g ∧ g < w'.heap.size ∧ (∀ i, i < 12 → ∃ b, w.heap.size ≤ b ∧ b < w'.heap.size ∧ w'.cell? ⟨g, i, none⟩ = some (.slice (some ⟨b, 0, none⟩) (goN i) (goN i)) ∧ ∀ j, j < goN i → w'.cell? ⟨b, j, none⟩ = some (.string (goS i j))) ∧ Below w.heap.size w w'
abbrev goO (w : World) : Array Value := #[.slice (some ⟨w.heap.size, 0, none⟩) 3 3, .slice (some ⟨w.heap.size + 1, 0, none⟩) 3 3, .slice (some ⟨w.heap.size + 2, 0, none⟩) 3 3, .slice (some ⟨w.heap.size + 3, 0, none⟩) 4 4, .slice (some ⟨w.heap.size + 4, 0, none⟩) 3 3, .slice (some ⟨w.heap.size + 5, 0, none⟩) 3 3, .slice (some ⟨w.heap.size + 6, 0, none⟩) 2 2, .slice (some ⟨w.heap.size + 7, 0, none⟩) 3 3, .slice (some ⟨w.heap.size + 8, 0, none⟩) 3 3, .slice (some ⟨w.heap.size + 9, 0, none⟩) 3 3, .slice (some ⟨w.heap.size + 10, 0, none⟩) 2 2, .slice (some ⟨w.heap.size + 11, 0, none⟩) 6 6]
theorem goOs_at : ∀ i, i < 12 → ∃ C, goOs[i]? = some (.cells C 9) ∧ ∀ j, j < goN i → C[j]? = some (.string (goS i j)) := by
  intro i hi
  rcases (by omega : i = 0 ∨ i = 1 ∨ i = 2 ∨ i = 3 ∨ i = 4 ∨ i = 5 ∨ i = 6 ∨ i = 7 ∨ i = 8 ∨ i = 9 ∨ i = 10 ∨ i = 11) with rfl | rfl | rfl | rfl | rfl | rfl | rfl | rfl | rfl | rfl | rfl | rfl
  all_goals refine ⟨_, rfl, fun j hj => ?_⟩
  all_goals
    have h6 : j < 6 := Nat.lt_of_lt_of_le hj (by decide)
    rcases (by omega : j = 0 ∨ j = 1 ∨ j = 2 ∨ j = 3 ∨ j = 4 ∨ j = 5) with rfl | rfl | rfl | rfl | rfl | rfl
    all_goals first | rfl | exact absurd hj (by decide)
theorem goO_at (w : World) : ∀ i, i < 12 → (goO w)[i]? = some (.slice (some ⟨w.heap.size + i, 0, none⟩) (goN i) (goN i)) := by
  intro i hi
  rcases (by omega : i = 0 ∨ i = 1 ∨ i = 2 ∨ i = 3 ∨ i = 4 ∨ i = 5 ∨ i = 6 ∨ i = 7 ∨ i = 8 ∨ i = 9 ∨ i = 10 ∨ i = 11) with rfl | rfl | rfl | rfl | rfl | rfl | rfl | rfl | rfl | rfl | rfl | rfl <;> rfl
theorem go_row (w : World) : GoRow w (.returned (.slice (some ⟨w.heap.size + 12, 0, none⟩) 12 12)) ((alls goOs w).alloc (.cells (goO w) 126)) := by
  have hz : (alls goOs w).heap.size = w.heap.size + 12 := alls_size goOs w
  have hb := (alls_below goOs w).trans ((box_below (alls goOs w) (.cells (goO w) 126)).mono (by omega))
  refine ⟨_, rfl, by omega, by rw [Deep.nblk_alloc]; omega, fun i hi => ⟨w.heap.size + i, by omega, by rw [Deep.nblk_alloc]; omega, ?_, fun j hj => ?_⟩, hb⟩
  · have h := Deep.blk_alloc_new (alls goOs w) (.cells (goO w) 126)
    rw [hz] at h
    exact cell_of_blk h i _ (goO_at w i hi)
  · obtain ⟨C, h1, h2⟩ := goOs_at i hi
    have h := (Deep.blk_alloc_lt (alls goOs w) (.cells (goO w) 126) _ (by omega : w.heap.size + i < (alls goOs w).heap.size)).trans (alls_at goOs w i _ h1)
    exact cell_of_blk h j _ (h2 j hj)

set_option maxRecDepth 100000 in
set_option maxHeartbeats 1600000 in
theorem l2Goals_calls (w : World) : Calls Try.prog 94 #[] w (GoRow w) := by
  have HT := mkHid (go_row w)
  go_enter Try.func94, Try.ntmps94
  go_wp2_with fail
  go_ret
  exact HT.out
end Go.Proofs.Ytjdlfpdljmohiaa
/-
  THE FIXED GOALS ARE VALID for their programs: by evaluation.
-/
namespace Go.Proofs.Ytjdlfpdljmohiaa
set_option linter.unusedVariables false
set_option linter.unusedSimpArgs false
open Go.RowKit

theorem goals_check : ((List.range 12).all fun i => (List.range (goN i)).all fun j => shB 0 ((parseP (txS i)).getD []).length 8 (parseE (goS i j)).1 && decide (1 + szT (parseE (goS i j)).1 ≤ 40)) = true := by decide +kernel
theorem goals_valid (i j : Nat) (hi : i < 12) (hj : j < goN i) : shB 0 ((parseP (txS i)).getD []).length 8 (parseE (goS i j)).1 = true ∧ 1 + szT (parseE (goS i j)).1 ≤ 40 := by
  have h := goals_check
  rw [List.all_eq_true] at h
  have h1 := h i (by simpa using hi)
  rw [List.all_eq_true] at h1
  have h2 := h1 j (by simpa using hj)
  simpa only [Bool.and_eq_true, decide_eq_true_eq] using h2
end Go.Proofs.Ytjdlfpdljmohiaa
/-
  THE MODEL's COPY OF AN EXPRESSION (l1Copy): the same tree in new memory; nothing that was there is changed.
-/
namespace Go.Proofs.Ytjdlfpdljmohiaa
set_option linter.unusedVariables false
set_option linter.unusedSimpArgs false
open Go.RowKit

/-- what holds behind k rounds of a loop that appends to the Kids of an expression of its own: the expression's block, the row, and all else as it was -/
def ApRel (o n : Int) (ts : List Tr) (B lo : Nat) (v : Value) (wr : World) : Prop := OwnTr wr lo ts v ∧ wr.heap[B]? = some (.cells #[.int .i64 o, .int .i64 n, v] 30)

/-- the step: the call has handed back a tree in new memory, a block for it was laid, append went through, and the value was stored -/
theorem apRel_step {o n : Int} {ts : List Tr} {B lo : Nat} {v v' : Value} {w w1 w2 w3 : World} {t : Tr} {c : Value} (h : ApRel o n ts B lo v w) (hB : B < lo) (hlo : lo ≤ w.heap.size) (hb : Below w.heap.size w w1) (hk : KidsOn w1 (Btw w.heap.size w1.heap.size) t.kids c) (ho : I64 t.op) (hn : I64 t.num)
    (he : w2 = w1.alloc (.cells #[.int .i64 t.op, .int .i64 t.num, c] 30)) (xs : List Value) (hx : w2.ownsRow lo 30 3 v ts.length xs)
    (hown : w3.ownsRow lo 30 3 v' (ts.length + 1) (xs ++ [.int .i64 t.op, .int .i64 t.num, c])) (hg : w2.grownBy w3 v.ownBlock) (hw : v'.ownBlock = v.ownBlock ∨ ∃ g, v'.ownBlock = some g ∧ w2.heap.size ≤ g)
    (hxs : ∀ j (hj : j < ts.length), ∃ a b c, xs[j * 3]? = some a ∧ xs[j * 3 + 1]? = some b ∧ xs[j * 3 + 2]? = some c ∧ TrOn w2 (fun k => lo ≤ k ∧ k < w2.heap.size ∧ some k ≠ v.ownBlock) ts[j] a b c) :
    ApRel o n (ts ++ [t]) B lo v' (w3.setCell ⟨B, 2, none⟩ v') := by
  subst he
  have hsz := hb.size
  have hOB : ∀ k, v.ownBlock = some k → lo ≤ k ∧ k < w.heap.size := by
    obtain ⟨xs', h1, _⟩ := h.1
    exact h1.lt
  have h2 : OwnTr (w1.alloc (.cells #[.int .i64 t.op, .int .i64 t.num, c] 30)) lo ts v := ⟨xs, hx, hxs⟩
  have hn3 := h2.step (t := t) (a := .int .i64 t.op) (b := .int .i64 t.num) (c := c) xs hx (by rw [Deep.nblk_alloc]; omega) hxs
    (trOn_iff.2 ⟨rfl, rfl, ho, hn, hk.mono (fun k hk => ⟨by have := hk.1; omega, by rw [Deep.nblk_alloc]; have := hk.2; omega, fun e => by have := (hOB k e.symm).2; have := hk.1; omega⟩) (fun k hk => Deep.blk_alloc_lt _ _ _ hk.2)⟩) hown hg hw
  have hBv : some B ≠ v.ownBlock := fun e => by have := (hOB B e.symm).1; omega
  have hB3 : w3.heap[B]? = some (.cells #[.int .i64 o, .int .i64 n, v] 30) := by
    rw [hg.block B (by rw [Deep.nblk_alloc]; omega) hBv, Deep.blk_alloc_lt _ _ _ (by omega), hb.block B (by omega)]
    exact h.2
  refine ⟨hn3.next (by rw [size_setCell]; exact Nat.le_refl _) (fun k h1 h2 => Below.heap_setCell _ _ _ _ (by show k ≠ B; omega)), ?_⟩
  simp [World.setCell, Array.getElem?_modify, hB3]

theorem ApRel.drew {o n : Int} {ts : List Tr} {B lo : Nat} {v : Value} {w : World} (h : ApRel o n ts B lo v w) : ApRel o n ts B lo v w.drew := ⟨h.1.next (Nat.le_refl _) (fun _ _ _ => rfl), h.2⟩
/-- ahead of append: the row, in the world with the new tree's block -/
theorem apRel_mid {o n : Int} {ts : List Tr} {B lo : Nat} {v : Value} {w w1 : World} (h : ApRel o n ts B lo v w) (hb : Below w.heap.size w w1) (obj : Obj) :
    ∃ xs, (w1.alloc obj).ownsRow lo 30 3 v ts.length xs ∧ ∀ j (hj : j < ts.length), ∃ a b c, xs[j * 3]? = some a ∧ xs[j * 3 + 1]? = some b ∧ xs[j * 3 + 2]? = some c ∧ TrOn (w1.alloc obj) (fun k => lo ≤ k ∧ k < (w1.alloc obj).heap.size ∧ some k ≠ v.ownBlock) ts[j] a b c :=
  h.1.next (w' := w1.alloc obj) (by rw [Deep.nblk_alloc]; have := hb.size; omega) (fun k _ hk => (Deep.blk_alloc_lt _ _ _ (Nat.lt_of_lt_of_le hk hb.size)).trans (hb.block k hk))
/-- behind append: the expression's own block -/
theorem apRel_blk {o n : Int} {ts : List Tr} {B lo : Nat} {v : Value} {w w1 w3 : World} {obj : Obj} (h : ApRel o n ts B lo v w) (hB : B < lo) (hlo : lo ≤ w.heap.size) (hb : Below w.heap.size w w1) (hg : (w1.alloc obj).grownBy w3 v.ownBlock) :
    w3.heap[B]? = some (.cells #[.int .i64 o, .int .i64 n, v] 30) := by
  have hsz := hb.size
  have hOB : ∀ k, v.ownBlock = some k → lo ≤ k ∧ k < w.heap.size := by
    obtain ⟨xs', h1, _⟩ := h.1
    exact h1.lt
  have hBv : some B ≠ v.ownBlock := fun e => by have := (hOB B e.symm).1; omega
  rw [hg.block B (by rw [Deep.nblk_alloc]; omega) hBv, Deep.blk_alloc_lt _ _ _ (by omega), hb.block B (by omega)]
  exact h.2
/-- .. and every other block that was there -/
theorem apRel_other {o n : Int} {ts : List Tr} {B lo : Nat} {v : Value} {w w1 w3 : World} {obj : Obj} (h : ApRel o n ts B lo v w) (hb : Below w.heap.size w w1) (hg : (w1.alloc obj).grownBy w3 v.ownBlock) (k : Nat) (hk : k < lo) (hkw : k < w.heap.size) : w3.heap[k]? = w.heap[k]? := by
  have hsz := hb.size
  have hOB : ∀ k, v.ownBlock = some k → lo ≤ k ∧ k < w.heap.size := by
    obtain ⟨xs', h1, _⟩ := h.1
    exact h1.lt
  rw [hg.block k (by rw [Deep.nblk_alloc]; omega) (fun e => by have := (hOB k e.symm).1; omega), Deep.blk_alloc_lt _ _ _ (by omega), hb.block k hkw]

/-- what holds behind k rounds of the copy -/
def CpRel (t : Tr) (box : Value) (w : World) (k : Nat) (wr : World) : Prop :=
  ∃ v, ApRel t.op t.num (t.kids.take k) (w.heap.size + 2) (w.heap.size + 3) v wr ∧ wr.heap[w.heap.size]? = some (.cells #[.int .i64 t.op, .int .i64 t.num, box] 30) ∧
    wr.heap[w.heap.size + 1]? = some (.cells #[.int .i64 0, .int .i64 0, .slice none 0 0] 30) ∧ Below w.heap.size w wr ∧ w.heap.size + 3 ≤ wr.heap.size

theorem cpRel_start (t : Tr) (box : Value) (w : World) : CpRel t box w 0 (((w.alloc (.cells #[.int .i64 t.op, .int .i64 t.num, box] 30)).alloc (.cells #[.int .i64 0, .int .i64 0, .slice none 0 0] 30)).alloc (.cells #[.int .i64 t.op, .int .i64 t.num, .slice none 0 0] 30)) := by
  have e1 : (w.alloc (.cells #[.int .i64 t.op, .int .i64 t.num, box] 30)).heap.size = w.heap.size + 1 := Deep.nblk_alloc _ _
  have e2 : ((w.alloc (.cells #[.int .i64 t.op, .int .i64 t.num, box] 30)).alloc (.cells #[.int .i64 0, .int .i64 0, .slice none 0 0] 30)).heap.size = w.heap.size + 2 := by rw [Deep.nblk_alloc, e1]
  refine ⟨.slice none 0 0, ⟨by simpa using OwnTr.nil _ _, ?_⟩, ?_, ?_, ?_, ?_⟩
  · rw [← e2]; exact Deep.blk_alloc_new _ _
  · rw [Deep.blk_alloc_lt _ _ _ (by rw [e2]; omega), Deep.blk_alloc_lt _ _ _ (by rw [e1]; omega)]; exact Deep.blk_alloc_new _ _
  · rw [Deep.blk_alloc_lt _ _ _ (by rw [e2]; omega)]; rw [← e1]; exact Deep.blk_alloc_new _ _
  · exact (((Below.refl _ _).alloc (Nat.le_refl _) _).alloc (by rw [e1]; omega) _).alloc (by rw [e2]; omega) _
  · rw [Deep.nblk_alloc, e2]; omega



end Go.Proofs.Ytjdlfpdljmohiaa
/-
  LISTS OF TREES THAT A CALL BUILDS BY append, WHERE ONE BLOCK OF THE CALLER's (a reader's) IS WRITTEN BETWEEN.
-/
namespace Go.Proofs.Ytjdlfpdljmohiaa
set_option linter.unusedVariables false
set_option linter.unusedSimpArgs false
open Go.RowKit

theorem KidsOn.but {w w' : World} {lo b : Nat} {ks : List Tr} {c : Value} (h : KidsOn w (Btw lo w.heap.size) ks c) (hb : But b w w') (hlo : b < lo) : KidsOn w' (Btw lo w'.heap.size) ks c :=
  h.mono (fun _ hk => ⟨hk.1, Nat.lt_of_lt_of_le hk.2 hb.size⟩) (fun k hk => hb.block k hk.2 (by have := hk.1; omega))

/-- ahead of append: the row, in the world with the new tree's block -/
theorem apBut_mid {o n : Int} {ts : List Tr} {B lo b : Nat} {v : Value} {w w1 : World} (h : ApRel o n ts B lo v w) (hb : But b w w1) (hblo : b < lo) (obj : Obj) :
    ∃ xs, (w1.alloc obj).ownsRow lo 30 3 v ts.length xs ∧ ∀ j (hj : j < ts.length), ∃ a b c, xs[j * 3]? = some a ∧ xs[j * 3 + 1]? = some b ∧ xs[j * 3 + 2]? = some c ∧ TrOn (w1.alloc obj) (fun k => lo ≤ k ∧ k < (w1.alloc obj).heap.size ∧ some k ≠ v.ownBlock) ts[j] a b c :=
  h.1.next (w' := w1.alloc obj) (by rw [Deep.nblk_alloc]; have := hb.size; omega) (fun k hl hk => (Deep.blk_alloc_lt _ _ _ (Nat.lt_of_lt_of_le hk hb.size)).trans (hb.block k hk (by omega)))
/-- behind append: every block that was there below the row, but the reader's, and that one as the call left it -/
theorem apBut_other {o n : Int} {ts : List Tr} {B lo b : Nat} {v : Value} {w w1 w3 : World} {obj : Obj} (h : ApRel o n ts B lo v w) (hsz : w.heap.size ≤ w1.heap.size) (hg : (w1.alloc obj).grownBy w3 v.ownBlock) (k : Nat) (hk : k < lo) (hkw : k < w1.heap.size) : w3.heap[k]? = w1.heap[k]? := by
  have hOB : ∀ k, v.ownBlock = some k → lo ≤ k ∧ k < w.heap.size := by
    obtain ⟨xs', h1, _⟩ := h.1
    exact h1.lt
  rw [hg.block k (by rw [Deep.nblk_alloc]; omega) (fun e => by have := (hOB k e.symm).1; omega), Deep.blk_alloc_lt _ _ _ hkw]
/-- the step -/
theorem apBut_step {o n : Int} {ts : List Tr} {B lo b : Nat} {v v' : Value} {w w1 w3 : World} {t : Tr} {c : Value} (h : ApRel o n ts B lo v w) (hB : B < lo) (hBb : B ≠ b) (hblo : b < lo) (hlo : lo ≤ w.heap.size) (hb : But b w w1) (hk : KidsOn w1 (Btw w.heap.size w1.heap.size) t.kids c) (ho : I64 t.op) (hn : I64 t.num)
    (xs : List Value) (hx : (w1.alloc (.cells #[.int .i64 t.op, .int .i64 t.num, c] 30)).ownsRow lo 30 3 v ts.length xs)
    (hown : w3.ownsRow lo 30 3 v' (ts.length + 1) (xs ++ [.int .i64 t.op, .int .i64 t.num, c])) (hg : (w1.alloc (.cells #[.int .i64 t.op, .int .i64 t.num, c] 30)).grownBy w3 v.ownBlock) (hw : v'.ownBlock = v.ownBlock ∨ ∃ g, v'.ownBlock = some g ∧ (w1.alloc (.cells #[.int .i64 t.op, .int .i64 t.num, c] 30)).heap.size ≤ g)
    (hxs : ∀ j (hj : j < ts.length), ∃ a b c', xs[j * 3]? = some a ∧ xs[j * 3 + 1]? = some b ∧ xs[j * 3 + 2]? = some c' ∧ TrOn (w1.alloc (.cells #[.int .i64 t.op, .int .i64 t.num, c] 30)) (fun k => lo ≤ k ∧ k < (w1.alloc (.cells #[.int .i64 t.op, .int .i64 t.num, c] 30)).heap.size ∧ some k ≠ v.ownBlock) ts[j] a b c') :
    ApRel o n (ts ++ [t]) B lo v' (w3.setCell ⟨B, 2, none⟩ v') := by
  have hsz := hb.size
  have hOB : ∀ k, v.ownBlock = some k → lo ≤ k ∧ k < w.heap.size := by
    obtain ⟨xs', h1, _⟩ := h.1
    exact h1.lt
  have h2 : OwnTr (w1.alloc (.cells #[.int .i64 t.op, .int .i64 t.num, c] 30)) lo ts v := ⟨xs, hx, hxs⟩
  have hn3 := h2.step (t := t) (a := .int .i64 t.op) (b := .int .i64 t.num) (c := c) xs hx (by rw [Deep.nblk_alloc]; omega) hxs
    (trOn_iff.2 ⟨rfl, rfl, ho, hn, hk.mono (fun k hk => ⟨by have := hk.1; omega, by rw [Deep.nblk_alloc]; have := hk.2; omega, fun e => by have := (hOB k e.symm).2; have := hk.1; omega⟩) (fun k hk => Deep.blk_alloc_lt _ _ _ hk.2)⟩) hown hg hw
  have hB3 : w3.heap[B]? = some (.cells #[.int .i64 o, .int .i64 n, v] 30) := by
    rw [apBut_other (B := B) (b := b) h hsz hg B hB (by omega), hb.block B (by omega) hBb]
    exact h.2
  refine ⟨hn3.next (by rw [size_setCell]; exact Nat.le_refl _) (fun k h1 h2 => Below.heap_setCell _ _ _ _ (by show k ≠ B; omega)), ?_⟩
  simp [World.setCell, Array.getElem?_modify, hB3]
end Go.Proofs.Ytjdlfpdljmohiaa
