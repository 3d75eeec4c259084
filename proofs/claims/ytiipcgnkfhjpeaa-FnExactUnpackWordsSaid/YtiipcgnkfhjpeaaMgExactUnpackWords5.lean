/-
  THE MODEL's l7Unpack, UnpackWords, AddressesOf.
-/
import Derived.Test.YtiipcgnkfhjpeaaMgExactUnpackWords2
import Derived.Test.YtiipcgnkfhjpeaaMgExactUnpackWords3
import Derived.Test.YtiipcgnkfhjpeaaMgExactUnpackWords4
import Derived.Test.YtiipcgnkfhjpeaaMgExactUnpackWords1
import Derived.IntWalk
import Derived.WalkSpells
import Derived.Test.YtiipcgnkfhjpeaaProg
import Derived.Deep.RegionWith
import Derived.Deep.DeepMust
import Derived.Deep.QuietTactic
import Derived.BigQuiet
namespace Go.Proofs.Ytiipcgnkfhjpeaa
set_option linter.unusedVariables false
set_option linter.unusedSimpArgs false
open Go.RowKit


/-- a graph, addresses, and whether there are any -/
def GotUnp (r : List Ce × List Int × Bool) (w : World) (e : Ending) (w' : World) : Prop := ∃ gv t, e = .returned (.tuple #[gv, t, .bool r.2.2]) ∧ CIn w' r.1 gv ∧ IIn w' r.2.1 t ∧ Below w.heap.size w w'
theorem oc_form {w : World} {lo : Nat} {S : Nat → Prop} {g : List Ce} {v : Value} (h : OwnC w lo S g v) : ∃ ad n cap, v = .slice ad n cap := by obtain ⟨ad, cap, e⟩ := h.form; exact ⟨ad, _, cap, e⟩
theorem cin_nil (w : World) (ad : Option Addr) (cap : Nat) (h : cap ≤ maxLen) : CIn w [] (.slice ad 0 cap) := ⟨ad, cap, rfl, Nat.zero_le _, h, Or.inl rfl⟩
theorem cellW_64 {ws : List Int} {a : Nat} (hw : ∀ x ∈ ws, I64 x) (ha : a < ws.length) (he : a + wLen (opW ws a) ≤ ws.length) (hc : wLen (opW ws a) ≠ 0) : I64 (cellW ws a).op ∧ I64 (cellW ws a).num := by
  have h2 := wLen_pos hc
  refine ⟨by rw [cellW_op, opW_at ha]; exact hw _ (List.getElem_mem ha), ?_⟩
  cases h : isNumOp (opW ws a) with
  | true => rw [cellW_num h]; show I64 (opW ws (a + 1)); rw [opW_at (by omega)]; exact hw _ (List.getElem_mem _)
  | false => rw [cellW_kid h]; unfold I64; simp
set_option maxRecDepth 100000 in
set_option maxHeartbeats 1600000 in
theorem l7Unpack_calls (ws : List Int) (v : Value) (w : World) (hk : IIn w ws v) (hw : ∀ x ∈ ws, I64 x) (hl : ws.length ≤ 1048576) :
    Calls Try.prog 40 #[v] w (GotUnp (unpO ws) w) := by
  have HK := mkHid hk
  have HW := mkHid hw
  obtain ⟨ad, cap, rfl, hlc, hm, -⟩ := hk
  unfold maxLen at hm
  clear hw
  go_enter Try.func40, Try.ntmps40
  by_cases hbig : ws.length ≤ 1600
  case neg =>
    have HV := mkHid (unpO_long hbig)
    have hb' : (1600 : Int) < (ws.length : Int) := by omega
    clear hbig
    go_wp2_with fail
    refine bodyPost_ret (v := .tuple #[.slice (some ⟨w.heap.size, 0, none⟩) 0 0, .slice (some ⟨w.heap.size + 1, 0, none⟩) 0 0, .bool false]) (by simp [results, Try.results40, go_sem]) rfl ?_
    rw [HV.out]
    exact ⟨_, _, rfl, cin_nil _ _ _ (by simp [maxLen]), (no_ints _ 0 _ _ (by simp [maxLen])).inn, (box_below _ _).alloc (by rw [Deep.nblk_alloc]; omega) _⟩
  go_wp2_with fail
  refine (l7Starts_calls ws _ w HK.out hl).mono ?_
  rintro e w2 ⟨sv, rfl, hsv, hb2⟩
  have HB2 := mkHid hb2
  have HSV := mkHid hsv
  clear hsv hb2
  obtain ⟨bs, hbs⟩ : ∃ bs, bs = (startsW ws 0).isSome := ⟨_, rfl⟩
  rw [← hbs]
  cases hst : startsW ws 0 with
  | none =>
    have HV := mkHid (unpO_none hst)
    rw [hst] at HSV
    obtain rfl : bs = false := by rw [hbs, hst]; rfl
    clear hst hbs
    have HSV' : Hid (IntRow w2 w.heap.size [] sv) := HSV.out
    obtain ⟨ads, caps, rfl, -, -, -⟩ := id HSV'.out
    go_wp2_with fail
    go_loopw [7, 8] (fun o i wr => (∃ q cp, o = .slice q 0 cp) ∧ i = .int .i64 0 ∧ Below w.heap.size w wr) (fun _ i _ => 0)
    case atStart => exact ⟨⟨_, _, rfl⟩, rfl, HB2.out.alloc HB2.out.size _⟩
    case round =>
      obtain ⟨⟨q, cp, rfl⟩, rfl, hb⟩ := hrel
      have HB := mkHid hb
      clear hb
      go_wp2_with fail
      refine bodyPost_ret (v := .tuple #[.slice (some ⟨wr.heap.size, 0, none⟩) 0 0, .slice (some ⟨wr.heap.size + 1, 0, none⟩) 0 0, .bool false]) (by simp [results, Try.results40, go_sem]) rfl ?_
      rw [HV.out]
      exact ⟨_, _, rfl, cin_nil _ _ _ (by simp [maxLen]), (no_ints _ 0 _ _ (by simp [maxLen])).inn, (HB.out.alloc HB.out.size _).alloc (by rw [Deep.nblk_alloc]; have := HB.out.size; omega) _⟩
  | some st =>
    rw [hst] at HSV
    obtain rfl : bs = true := by rw [hbs, hst]; rfl
    clear hbs
    have HST := mkHid hst
    have HSO := mkHid (starts_sorted hst)
    have hsm := starts_small hst
    have HSC : Hid (∀ x ∈ st, CellAt ws x) := fun x hx => starts_cell HST.out hx
    clear hst
    have HSI : Hid (IIn w2 st sv) := (show IntRow w2 w.heap.size st sv from HSV.out).inn
    obtain ⟨ads, caps, rfl, -, -, -⟩ := id HSI.out
    obtain ⟨iC, zC, hII⟩ := infoC1
    have HII := mkHid hII
    clear hII
    go_wp2_with fail
    go_loopw [7, 8] (fun o i wr => ∃ j : Nat, j ≤ st.length ∧ i = .int .i64 j ∧ OwnC wr w2.heap.size (fun b => w2.heap.size ≤ b ∧ b < wr.heap.size) (graphTo ws st j) o ∧ Below w2.heap.size w2 wr) (fun _ i _ => st.length - (intOf i).toNat)
    case atStart => exact ⟨0, Nat.zero_le _, rfl, by rw [graphTo_zero]; exact OwnC.zeroB _, box_below _ _⟩
    case round =>
      obtain ⟨j, hj, rfl, hown, hb⟩ := hrel
      obtain ⟨wo, rfl⟩ : ∃ wo : World, wo = wr := ⟨_, rfl⟩
      obtain ⟨ado, capo, rfl⟩ := hown.form
      rw [graphTo_len hj] at hown ⊢
      have HO := mkHid hown
      have HB := mkHid hb
      by_cases hlt : j < st.length
      · obtain ⟨b0, o0, rfl, d0w⟩ := HSI.out.at j hlt
        obtain ⟨a, hae, ha, hc, he⟩ := HSC.out _ (List.getElem_mem hlt)
        rw [hae] at d0w
        have d0 := (hb.cell (p := ⟨b0, o0 + j, none⟩) (cell_lt d0w)).trans d0w
        have HSN := mkHid (graphTo_snoc (ws := ws) hlt hae)
        rw [← opW_at ha] at hc he
        have H64 := mkHid (cellW_64 HW.out ha he hc)
        clear hown hb d0w hae
        go_wp2_with fail
        refine (l7Cell_calls ws a _ wo (HK.out.next (HB2.out.trans (HB.out.mono HB2.out.size))) ha hc he hl).mono ?_
        rintro e w5 ⟨kv, rfl, hkv, hb5⟩
        obtain ⟨c, hcw⟩ : ∃ c, c = cellW ws a := ⟨_, rfl⟩
        have HKL : Hid (c.kids.length ≤ 3) := by
          rw [hcw, Hid]
          have h4 := wLen_le (opW ws a)
          cases hnum : isNumOp (opW ws a) with
          | true => rw [cellW_num hnum]; simp
          | false => rw [cellW_kid hnum, List.length_take]; omega
        rw [← hcw] at HSN H64 hkv ⊢
        have HKV : Hid (StkI w5 wo.heap.size (kkW st c.kids 0) kv) := by rw [kkW_zero]; exact hkv
        obtain ⟨adk, capk, rfl⟩ := hkv.len
        have HB5 := mkHid hb5
        clear hcw hkv hb5 d0 hc he ha
        obtain ⟨w6, hw6⟩ : ∃ w6 : World, w6 = w5.alloc (.cells #[.int .i64 c.op, .int .i64 c.num, .slice adk c.kids.length capk] 40) := ⟨_, rfl⟩
        have HX6 : Hid (w6.heap[w5.heap.size]? = some (.cells #[.int .i64 c.op, .int .i64 c.num, .slice adk c.kids.length capk] 40)) := by rw [hw6]; exact Deep.blk_alloc_new _ _
        have HB6 : Hid (Below wo.heap.size wo w6) := by rw [hw6]; exact HB5.out.alloc HB5.out.size _
        have HK6 : Hid (StkI w6 wo.heap.size (kkW st c.kids 0) (.slice adk c.kids.length capk)) := by rw [hw6]; exact StkI.alloc HKV.out _
        go_wp2_with fail
        rw [← hw6]
        clear hw6
        go_loopw [10] (fun i wr => ∃ q : Nat, q ≤ c.kids.length ∧ i = .int .i64 q ∧ wr.heap[w5.heap.size]? = some (.cells #[.int .i64 c.op, .int .i64 c.num, .slice adk c.kids.length capk] 40) ∧ StkI wr wo.heap.size (kkW st c.kids q) (.slice adk c.kids.length capk) ∧ Below wo.heap.size wo wr) (fun i _ => c.kids.length - (intOf i).toNat)
        case atStart => exact ⟨0, Nat.zero_le _, rfl, HX6.out, HK6.out, HB6.out⟩
        case round =>
          obtain ⟨q, hq, rfl, hbx, hkq, hbq⟩ := hrel
          obtain ⟨wq, rfl⟩ : ∃ wq : World, wq = wr := ⟨_, rfl⟩
          have HXQ := mkHid hbx
          have HKQ := mkHid hkq
          have HBQ := mkHid hbq
          have x2 := cell_of_blk hbx 2 _ rfl
          have fx := frz_of_blk hbx
          by_cases hqt : q < c.kids.length
          · obtain ⟨g, cp, cur, he2, hg1, hg2, hg3⟩ := stki_at hkq q (by rw [kkW_length]; exact hqt)
            rw [kkW_length] at he2
            simp only [Value.slice.injEq, true_and] at he2
            obtain ⟨rfl, rfl⟩ := he2
            have hkg : (kkW st c.kids q)[q]'(by rw [kkW_length]; exact hqt) = c.kids[q] := by
              have h := kkW_get (st := st) hqt
              rw [List.getElem?_eq_getElem (by rw [kkW_length]; exact hqt)] at h
              simpa using h
            rw [hkg] at hg3
            obtain ⟨y, hy⟩ : ∃ y, y = c.kids[q] := ⟨_, rfl⟩
            have HSET : Hid (∀ W : World, (∀ k, W.heap[k]? = wq.heap[k]?) → StkI (W.setCell ⟨g, q, none⟩ (.int .i64 (idxI st y))) wo.heap.size (kkW st c.kids (q + 1)) (.slice (some ⟨g, 0, none⟩) c.kids.length capk)) := fun W hW => by
              have h := stki_set (i := q) (y := idxI st y) (StkI.keep HKQ.out (w' := W) fun k _ _ => hW k)
              rw [hy, kkW_set hqt] at h
              rw [hy]
              exact h
            have hgne : g ≠ w5.heap.size := fun e5 => by
              have h7 := HXQ.out
              rw [← e5, hg2] at h7
              simp at h7
            have HGB : Hid (wo.heap.size ≤ g ∧ g ≠ w5.heap.size) := ⟨hg1, hgne⟩
            have fk := frz_of_blk hg2
            rw [← hy] at hg3
            have x2d : wq.drew.cell? ⟨w5.heap.size, 2, none⟩ = some (.slice (some ⟨g, 0, none⟩) c.kids.length capk) := x2
            have hg3d : wq.drew.cell? ⟨g, q, none⟩ = some (.int .i64 y) := hg3
            have HSQ : Hid (IIn wq st (.slice (some ⟨b0, o0, none⟩) st.length caps)) := HSI.out.next (HB.out.trans (HBQ.out.mono HB.out.size))
            have hqI : (q : Int) < (c.kids.length : Int) := by omega
            have hk3 := HKL.out
            have HSL : Hid (st.length ≤ 1048576) := by unfold Hid; omega
            clear hbx hkq hbq hkg hy hg1 hg2 hgne
            go_wp2_with fail
            go_region_with (first
              | (go_at_call 42; refine (l7Index_calls st y _ _ (HSQ.out.drew) HSO.out HSL.out).mono ?_; rintro e w7 ⟨rfl, rfl⟩))
            all_goals
              go_wp2_with fail
              go_roundw
              case rel => exact ⟨q + 1, by omega, by go_num, (Below.heap_setCell _ _ _ _ HGB.out.2.symm).trans HXQ.out, StkI.drew (HSET.out wq fun _ => rfl), (HBQ.out.setCell HGB.out.1 _).drew⟩
              case measure => simp [intOf]; omega
          · have hqe : q = c.kids.length := by omega
            have HKA : Hid (StkI wq wo.heap.size (cellP st c).kids (.slice adk c.kids.length capk)) := by
              have h := HKQ.out
              rw [hqe, kkW_all] at h
              exact h
            have x0 := cell_of_blk HXQ.out 0 _ rfl
            have x1 := cell_of_blk HXQ.out 1 _ rfl
            have HOA : Hid (OwnC (wq.alloc (.cells #[.int .i64 c.op, .int .i64 c.num, .slice adk c.kids.length capk] 40)) w2.heap.size (fun b => w2.heap.size ≤ b ∧ b < wo.heap.size) (graphTo ws st j) (.slice ado j capo)) := (HO.out.keepB HBQ.out).next (fun _ h _ => h) (fun b _ hb => Deep.blk_alloc_lt _ _ _ hb) (fun b _ hb => Deep.blk_alloc_lt _ _ _ hb)
            obtain ⟨xs, hx⟩ := HOA.out.row
            rw [graphTo_len hj] at hx
            have HX := mkHid hx
            have hj9 : j ≤ 800 := by omega
            have HSZ : Hid (w2.heap.size ≤ wo.heap.size ∧ wo.heap.size ≤ wq.heap.size) := ⟨HB.out.size, HBQ.out.size⟩
            clear hbx hkq hbq hqe hx fx
            go_wp2_with (at_builtin; go_must (refine wpList_append_where _ rfl _ _ 27 rfl w2.heap.size 40 iC zC 3 40 Try.underlying27 HII.out.1 HII.out.2.1 HII.out.2.2.1 HII.out.2.2.2.1 HII.out.2.2.2.2 (by decide) (.slice ado j capo) j xs rfl HX.out ⟨wq.heap.size, 0, none⟩ 1 1 [.int .i64 c.op, .int .i64 c.num, .slice adk c.kids.length capk] rfl rfl (news3c wq _ _ _) (by simp [Value.oneCell']) (by unfold maxLen; omega) (by omega) (by rw [Deep.nblk_alloc]; have := HSZ.out; omega) (by omega) ?_); go_must (intro v' w8 hown hg5 hw5); go_must (have HB8 : Hid (Below w2.heap.size w2 w8) := below_grown ((HB.out.trans (HBQ.out.mono HB.out.size)).alloc (by have := HSZ.out; omega) _) hg5 (fun k hk => own_lo HX.out hk.symm)); go_must (have HO8 : Hid (OwnC w8 w2.heap.size (fun b => w2.heap.size ≤ b ∧ b < w8.heap.size) (graphTo ws st (j + 1)) v') := by rw [HSN.out]; exact OwnC.push (c := cellP st c) HOA.out (StkI.alloc HKA.out _) HSZ.out.1 (by rw [Deep.nblk_alloc]; have := HSZ.out; omega) H64.out (by rw [graphTo_len hj]; exact HX.out) (by rw [graphTo_len hj]; exact hown) hg5); go_must (obtain ⟨ad8, n8, cap8, rfl⟩ := oc_form HO8.out); clear hown hg5 hw5 x0 x1 x2)
            go_roundw
            case rel => first | exact ⟨j + 1, by omega, by go_num, HO8.out, HB8.out⟩ | ((repeat apply Exists.intro); exact ⟨⟨j + 1, by omega, by go_num, HO8.out, HB8.out⟩, rfl⟩)
            case measure => simp [intOf]; omega
      · have hje : j = st.length := by omega
        have HOG : Hid (OwnC wo w2.heap.size (fun b => w2.heap.size ≤ b ∧ b < wo.heap.size) (graphW ws st) (.slice ado j capo)) := by
          have h := HO.out
          rw [hje, graphTo_all] at h
          rw [hje]; exact h
        have HCI : Hid (CIn wo (graphW ws st) (.slice ado j capo)) := HOG.out.inn fun k h _ => h.1
        have HBW : Hid (Below w.heap.size w wo) := HB2.out.trans (HB.out.mono HB2.out.size)
        have HS9 : Hid (IIn wo st (.slice ads st.length caps)) := HSI.out.next HB.out
        clear hown hb hje
        go_wp2_with fail
        refine (specGraph_calls (graphW ws st) 6 _ _ HCI.out).mono ?_
        rintro e w7 ⟨rfl, hb7⟩
        have HB7 : Hid (Below w.heap.size w w7) := HBW.out.trans (hb7.mono HBW.out.size)
        have HC7 := mkHid (HCI.out.next hb7)
        have HS7 := mkHid (HS9.out.next hb7)
        clear hb7
        cases hg : graphB (graphW ws st) 6 with
        | false =>
          have HV := mkHid (unpO_bad HST.out hg)
          clear hg
          go_wp2_with fail
          refine bodyPost_ret (v := .tuple #[.slice (some ⟨w7.heap.size, 0, none⟩) 0 0, .slice (some ⟨w7.heap.size + 1, 0, none⟩) 0 0, .bool false]) (by simp [results, Try.results40, go_sem]) rfl ?_
          rw [HV.out]
          exact ⟨_, _, rfl, cin_nil _ _ _ (by simp [maxLen]), (no_ints _ 0 _ _ (by simp [maxLen])).inn, (HB7.out.alloc HB7.out.size _).alloc (by rw [Deep.nblk_alloc]; have := HB7.out.size; omega) _⟩
        | true =>
          have HV := mkHid (unpO_yes hbig HST.out hg)
          clear hg
          go_wp2_with fail
          refine bodyPost_ret (v := .tuple #[.slice ado j capo, .slice ads st.length caps, .bool true]) (by simp [results, Try.results40, go_sem]) rfl ?_
          rw [HV.out]
          exact ⟨_, _, rfl, HC7.out, HS7.out, HB7.out⟩

theorem specUnp_calls (ws : List Int) (v : Value) (w : World) (hk : IIn w ws v) (hw : ∀ x ∈ ws, I64 x) (hl : ws.length ≤ 1048576) :
    Calls Try.prog 18 #[v] w fun e w' => ∃ gv, e = .returned (.tuple #[gv, .bool (unpO ws).2.2]) ∧ CIn w' (unpO ws).1 gv ∧ Below w.heap.size w w' := by
  have HK := mkHid hk
  obtain ⟨ad, cap, rfl, -, -, -⟩ := hk
  obtain ⟨r, hr⟩ : ∃ r, r = unpO ws := ⟨_, rfl⟩
  have HR := mkHid hr
  rw [← hr]
  clear hr
  go_enter Try.func18, Try.ntmps18
  go_wp2_with fail
  refine (l7Unpack_calls ws _ w HK.out hw hl).mono ?_
  rw [← HR.out]
  rintro e w1 ⟨gv, t, rfl, h1, h2, h3⟩
  have H1 := mkHid (And.intro h1 h3)
  clear h1 h2 h3
  go_wp2_with fail
  refine bodyPost_ret (v := .tuple #[gv, .bool r.2.2]) (by simp [results, Try.results18, go_sem]) rfl ?_
  exact ⟨_, rfl, H1.out.1, H1.out.2⟩
end Go.Proofs.Ytiipcgnkfhjpeaa
/-
  slices.BinarySearch AND slices.Clone, of ints.
-/
namespace Go.Proofs.Ytiipcgnkfhjpeaa
set_option linter.unusedVariables false
set_option linter.unusedSimpArgs false
open Go.RowKit


theorem isNaN_calls (x : Int) (w : World) : Calls Try.prog 79 #[.int .i64 x] w fun e w' => e = .returned (.bool false) ∧ w = w' := by
  have t1 : (x != x) = false := by simp
  go_enter Try.func79, Try.ntmps79
  go_wp2_with fail
  go_ret
  exact ⟨rfl, rfl⟩
theorem isNaNc_calls (x : Int) (w : World) : Calls Try.prog 80 #[.int .i64 x] w fun e w' => e = .returned (.bool false) ∧ w = w' := by
  have t1 : (x != x) = false := by simp
  go_enter Try.func80, Try.ntmps80
  go_wp2_with fail
  go_ret
  exact ⟨rfl, rfl⟩
theorem less_calls (x y : Int) (w : World) : Calls Try.prog 78 #[.int .i64 x, .int .i64 y] w fun e w' => e = .returned (.bool (decide (x < y))) ∧ w = w' := by
  go_enter Try.func78, Try.ntmps78
  go_wp2_with (first
    | (go_at_call 80; refine (isNaNc_calls _ _).mono ?_; rintro e w1 ⟨rfl, rfl⟩))
  go_ret
  exact ⟨rfl, rfl⟩
set_option maxHeartbeats 800000 in
theorem search_calls (xs : List Int) (a : Int) (v : Value) (w : World) (hk : IIn w xs v) (hs : xs.Pairwise (· < ·)) (hl : xs.length ≤ 1048576) :
    Calls Try.prog 75 #[v, .int .i64 a] w fun e w' => ∃ i : Int, e = .returned (.tuple #[.int .i64 i, .bool (decide (0 ≤ idxI xs a))]) ∧ (0 ≤ idxI xs a → i = idxI xs a) ∧ w = w' := by
  have HK := mkHid hk
  have HS := mkHid hs
  obtain ⟨ad, cap, rfl, hlc, hm, -⟩ := hk
  unfold maxLen at hm
  clear hs
  go_enter Try.func75, Try.ntmps75
  go_wp2_with fail
  go_loopw [7, 8] (fun l h wr => ∃ lo hi : Nat, l = .int .i64 lo ∧ h = .int .i64 hi ∧ Bis xs a lo hi ∧ wr = w) (fun l h _ => (intOf h).toNat - (intOf l).toNat)
  case atStart => exact ⟨0, xs.length, rfl, rfl, Bis.start _ _, rfl⟩
  case round =>
    obtain ⟨lo, hi, rfl, rfl, hbis, rfl⟩ := hrel
    have HBI := mkHid hbis
    have hb1 := hbis.1
    have hb2 := hbis.2.1
    clear hbis
    by_cases hlt : lo < hi
    · have hm1 : lo ≤ (lo + hi) / 2 ∧ (lo + hi) / 2 < hi := by omega
      have hmx : (lo + hi) / 2 < xs.length := by omega
      have hmi : ((lo : Int) + hi) / 2 = (((lo + hi) / 2 : Nat) : Int) := by omega
      obtain ⟨bl, off, rfl, d0⟩ := HK.out.at ((lo + hi) / 2) hmx
      have HMX := mkHid (And.intro hm1 hmi)
      clear hmi
      go_wp2_with fail
      refine (less_calls _ _ _).mono ?_
      rintro e w1 ⟨rfl, rfl⟩
      by_cases hc : xs[(lo + hi) / 2] < a
      · have hc' : decide (xs[(lo + hi) / 2] < a) = true := by simpa using hc
        rw [hc']
        go_wp2_with fail
        go_roundw
        case rel => exact ⟨(lo + hi) / 2 + 1, hi, by rw [HMX.out.2]; go_num, rfl, HBI.out.up HS.out hm1.2 hmx hc, by first | rfl | trivial⟩
        case measure => have := HMX.out.2; simp [intOf]; omega
      · have hc' : decide (xs[(lo + hi) / 2] < a) = false := by simpa using hc
        rw [hc']
        go_wp2_with fail
        go_roundw
        case rel => exact ⟨lo, (lo + hi) / 2, rfl, by rw [HMX.out.2], HBI.out.down HS.out hm1.2 hm1.1 hmx (by omega), by first | rfl | trivial⟩
        case measure => have := HMX.out.2; simp [intOf]; omega
    · obtain rfl : lo = hi := by omega
      by_cases hl2 : lo < xs.length
      · obtain ⟨bl, off, rfl, d0⟩ := HK.out.at lo hl2
        by_cases he : xs[lo] = a
        · have HV : Hid (idxI xs a = (lo : Int)) := idxI_found HS.out hl2 he
          have he' : (xs[lo] == a) = true := by simpa using he
          clear he
          go_wp2_with (first
            | (go_at_call 79; refine (isNaN_calls _ _).mono ?_; rintro e w1 ⟨rfl, rfl⟩))
          refine bodyPost_ret (v := .tuple #[.int .i64 lo, .bool true]) (by simp [results, Try.results75, go_sem]) rfl ?_
          exact ⟨(lo : Int), by rw [HV.out]; simp, fun _ => HV.out.symm, rfl⟩
        · have HV : Hid (idxI xs a = -1) := HBI.out.none (fun _ => he) HS.out
          have he' : (xs[lo] == a) = false := by simpa using he
          go_wp2_with (first
            | (go_at_call 79; refine (isNaN_calls _ _).mono ?_; rintro e w1 ⟨rfl, rfl⟩))
          refine bodyPost_ret (v := .tuple #[.int .i64 lo, .bool false]) (by simp [results, Try.results75, go_sem]) rfl ?_
          exact ⟨(lo : Int), by rw [HV.out]; rfl, fun h => by have := HV.out; omega, rfl⟩
      · have HV : Hid (idxI xs a = -1) := HBI.out.none (fun h => absurd h hl2) HS.out
        go_wp2_with fail
        refine bodyPost_ret (v := .tuple #[.int .i64 lo, .bool false]) (by simp [results, Try.results75, go_sem]) rfl ?_
        exact ⟨(lo : Int), by rw [HV.out]; rfl, fun h => by have := HV.out; omega, rfl⟩

theorem clone_belowI {wr w1 : World} {o : Obj} (h : (wr.alloc o).grownBy w1 (Value.slice (some ⟨wr.heap.size, 0, none⟩) 0 0).ownBlock) : Below wr.heap.size wr w1 :=
  ⟨h.os, h.tape, h.output, by have h1 : (wr.alloc o).heap.size ≤ w1.heap.size := h.size; rw [Deep.nblk_alloc] at h1; omega, fun k hk => (h.block k (by show k < (wr.alloc o).heap.size; rw [Deep.nblk_alloc]; omega) (by simp only [Value.ownBlock, ne_eq, Option.some.injEq]; omega)).trans (Deep.blk_alloc_lt _ _ _ hk)⟩
/-- a copy, in a row of its own -/
def CloneW (xs : List Int) (w : World) (e : Ending) (w' : World) : Prop := ∃ v, e = .returned v ∧ StkI w' w.heap.size xs v ∧ Below w.heap.size w w'
set_option maxRecDepth 100000 in
set_option maxHeartbeats 800000 in
theorem cloneW_calls (xs : List Int) (v : Value) (w : World) (hk : IIn w xs v) (hl : xs.length ≤ 1048576) : Calls Try.prog 47 #[v] w (CloneW xs w) := by
  have HK : Hid (IIn w xs v) := hk
  obtain ⟨ad, cap, rfl, hlc, hm, hr⟩ := hk
  unfold maxLen at hm
  rcases ad with _ | ad
  · have hnil : xs = [] := by
      rcases hr with h | ⟨_, _, h, -⟩
      · exact h
      · simp at h
    subst hnil
    clear hr HK
    have q : (binOp .eql 24 (.slice none 0 cap) (.slice none 0 0)).run Try.prog w = .ok (.bool true) w := Lib.run_eql_slice_nil w _ _ none 0 cap 0 0 Try.underlying24
    go_enter Try.func47, Try.ntmps47
    go_wp2_with fail
    go_ret
    exact ⟨_, rfl, StkI.none _ _, Below.refl _ _⟩
  · clear hr
    have q : (binOp .eql 24 (.slice (some ad) xs.length cap) (.slice none 0 0)).run Try.prog w = .ok (.bool false) w := Lib.run_eql_slice_nil w _ _ (some ad) xs.length cap 0 0 Try.underlying24
    go_enter Try.func47, Try.ntmps47
    go_wp2_with (at_builtin; go_must (refine wpList_pushI rfl _ _ rfl _ w.heap.size [] xs (.slice (some ⟨w.heap.size, 0, none⟩) 0 0) (.slice (some ad) xs.length cap) rfl (StkI.nil w _ (Nat.le_refl _)) rfl (HK.out.next (box_below w _)) (by rw [Deep.nblk_alloc]; omega) (by simp only [List.length_nil]; omega) ?_); go_must (intro v1 w1 hst1 hg1); go_must (have HST1 : Hid (StkI w1 w.heap.size xs v1) := hst1); go_must (have HB1 : Hid (Below w.heap.size w w1) := clone_belowI hg1); clear hst1 hg1)
    go_ret
    exact ⟨_, rfl, HST1.out, HB1.out⟩
end Go.Proofs.Ytiipcgnkfhjpeaa
/-
  THE PROGRAM's ExprValid (opOf, nodeOf, the four kinds' fits, nodesLeft, ExprValid): which trees it takes for valid; nothing that was there is changed.
-/
namespace Go.Proofs.Ytiipcgnkfhjpeaa
set_option linter.unusedVariables false
set_option linter.unusedSimpArgs false
open Go.RowKit

/-- how nodes of a kind with operands are written -/
def opKids (op : Int) : Int := if op = 4 then 2 else if op = 5 then 2 else if op = 6 then 1 else if op = 7 then 1 else if op = 8 then 2 else if op = 9 then 2 else if op = 10 then 3 else 0
def opMarks (op : Int) : ByteArray := if op = 4 then ⟨#[40, 32, 41]⟩ else if op = 5 then ⟨#[60, 44, 62]⟩ else if op = 6 then ⟨#[126]⟩ else if op = 7 then ⟨#[94]⟩ else if op = 8 then ⟨#[40, 43, 41]⟩ else if op = 9 then ⟨#[40, 45, 41]⟩ else if op = 10 then ⟨#[91, 63, 58, 93]⟩ else ⟨#[]⟩
def opOk (op : Int) : Bool := decide (4 ≤ op ∧ op ≤ 10)

/-- opOf has handed back the row of a kind -/
def OpRow (op : Int) (w : World) (e : Ending) (w' : World) : Prop := e = .returned (.tuple #[.agg #[.int .i64 (opKids op), .string (opMarks op)], .bool (opOk op)]) ∧ Below w.heap.size w w'

theorem opRow_4 {op : Int} (h : (op == 4) = true) : opKids op = 2 ∧ opMarks op = ⟨#[40, 32, 41]⟩ ∧ opOk op = true := by
  have e : op = 4 := by simpa using h
  subst e
  exact ⟨rfl, rfl, rfl⟩
theorem opRow_5 {op : Int} (h : (op == 5) = true) : opKids op = 2 ∧ opMarks op = ⟨#[60, 44, 62]⟩ ∧ opOk op = true := by
  have e : op = 5 := by simpa using h
  subst e
  exact ⟨rfl, rfl, rfl⟩
theorem opRow_6 {op : Int} (h : (op == 6) = true) : opKids op = 1 ∧ opMarks op = ⟨#[126]⟩ ∧ opOk op = true := by
  have e : op = 6 := by simpa using h
  subst e
  exact ⟨rfl, rfl, rfl⟩
theorem opRow_7 {op : Int} (h : (op == 7) = true) : opKids op = 1 ∧ opMarks op = ⟨#[94]⟩ ∧ opOk op = true := by
  have e : op = 7 := by simpa using h
  subst e
  exact ⟨rfl, rfl, rfl⟩
theorem opRow_8 {op : Int} (h : (op == 8) = true) : opKids op = 2 ∧ opMarks op = ⟨#[40, 43, 41]⟩ ∧ opOk op = true := by
  have e : op = 8 := by simpa using h
  subst e
  exact ⟨rfl, rfl, rfl⟩
theorem opRow_9 {op : Int} (h : (op == 9) = true) : opKids op = 2 ∧ opMarks op = ⟨#[40, 45, 41]⟩ ∧ opOk op = true := by
  have e : op = 9 := by simpa using h
  subst e
  exact ⟨rfl, rfl, rfl⟩
theorem opRow_10 {op : Int} (h : (op == 10) = true) : opKids op = 3 ∧ opMarks op = ⟨#[91, 63, 58, 93]⟩ ∧ opOk op = true := by
  have e : op = 10 := by simpa using h
  subst e
  exact ⟨rfl, rfl, rfl⟩
theorem opRow_no {op : Int} (h4 : (op == 4) = false) (h5 : (op == 5) = false) (h6 : (op == 6) = false) (h7 : (op == 7) = false) (h8 : (op == 8) = false) (h9 : (op == 9) = false) (h10 : (op == 10) = false) : opKids op = 0 ∧ opMarks op = ⟨#[]⟩ ∧ opOk op = false := by
  simp only [beq_eq_false_iff_ne] at *
  refine ⟨?_, ?_, ?_⟩
  · unfold opKids; rw [if_neg h4, if_neg h5, if_neg h6, if_neg h7, if_neg h8, if_neg h9, if_neg h10]
  · unfold opMarks; rw [if_neg h4, if_neg h5, if_neg h6, if_neg h7, if_neg h8, if_neg h9, if_neg h10]
  · unfold opOk; rw [decide_eq_false]; omega

set_option maxHeartbeats 400000 in
theorem opOf_calls (op : Int) (w : World) : Calls Try.prog 62 #[.int .i64 op] w (OpRow op w) := by
  go_enter Try.func62, Try.ntmps62
  go_wp2_with fail
  all_goals first
    | (rename (op == 4) = true => ht; obtain ⟨e1, e2, e3⟩ := opRow_4 ht; refine bodyPost_ret (v := .tuple #[.agg #[.int .i64 2, .string ⟨#[40, 32, 41]⟩], .bool true]) (by simp [results, Try.results62, go_sem]) rfl ⟨by rw [e1, e2, e3], box_below _ _⟩)
    | (rename (op == 5) = true => ht; obtain ⟨e1, e2, e3⟩ := opRow_5 ht; refine bodyPost_ret (v := .tuple #[.agg #[.int .i64 2, .string ⟨#[60, 44, 62]⟩], .bool true]) (by simp [results, Try.results62, go_sem]) rfl ⟨by rw [e1, e2, e3], box_below _ _⟩)
    | (rename (op == 6) = true => ht; obtain ⟨e1, e2, e3⟩ := opRow_6 ht; refine bodyPost_ret (v := .tuple #[.agg #[.int .i64 1, .string ⟨#[126]⟩], .bool true]) (by simp [results, Try.results62, go_sem]) rfl ⟨by rw [e1, e2, e3], box_below _ _⟩)
    | (rename (op == 7) = true => ht; obtain ⟨e1, e2, e3⟩ := opRow_7 ht; refine bodyPost_ret (v := .tuple #[.agg #[.int .i64 1, .string ⟨#[94]⟩], .bool true]) (by simp [results, Try.results62, go_sem]) rfl ⟨by rw [e1, e2, e3], box_below _ _⟩)
    | (rename (op == 8) = true => ht; obtain ⟨e1, e2, e3⟩ := opRow_8 ht; refine bodyPost_ret (v := .tuple #[.agg #[.int .i64 2, .string ⟨#[40, 43, 41]⟩], .bool true]) (by simp [results, Try.results62, go_sem]) rfl ⟨by rw [e1, e2, e3], box_below _ _⟩)
    | (rename (op == 9) = true => ht; obtain ⟨e1, e2, e3⟩ := opRow_9 ht; refine bodyPost_ret (v := .tuple #[.agg #[.int .i64 2, .string ⟨#[40, 45, 41]⟩], .bool true]) (by simp [results, Try.results62, go_sem]) rfl ⟨by rw [e1, e2, e3], box_below _ _⟩)
    | (rename (op == 10) = true => ht; obtain ⟨e1, e2, e3⟩ := opRow_10 ht; refine bodyPost_ret (v := .tuple #[.agg #[.int .i64 3, .string ⟨#[91, 63, 58, 93]⟩], .bool true]) (by simp [results, Try.results62, go_sem]) rfl ⟨by rw [e1, e2, e3], box_below _ _⟩)
    | (rename (op == 4) = false => h4; rename (op == 5) = false => h5; rename (op == 6) = false => h6; rename (op == 7) = false => h7; rename (op == 8) = false => h8; rename (op == 9) = false => h9; rename (op == 10) = false => h10; obtain ⟨e1, e2, e3⟩ := opRow_no h4 h5 h6 h7 h8 h9 h10; refine bodyPost_ret (v := .tuple #[.agg #[.int .i64 0, .string ⟨#[]⟩], .bool false]) (by simp [results, Try.results62, go_sem]) rfl ⟨by rw [e1, e2, e3], box_below _ _⟩)

set_option maxHeartbeats 400000 in
theorem nodeOf_1 (n : Int) (len : Nat) (w : World) : Calls Try.prog 73 #[.int .i64 1, .int .i64 n, .int .i64 (len : Int)] w fun e w' => e = .returned (.tuple #[.iface 99 (.int .i64 n), .bool ((len : Int) == 0)]) ∧ Below w.heap.size w w' := by
  go_enter Try.func73, Try.ntmps73
  go_wp2_with fail
  go_ret2
  exact ⟨rfl, Below.refl _ _⟩

set_option maxHeartbeats 400000 in
theorem nodeOf_2 (n : Int) (len : Nat) (w : World) : Calls Try.prog 73 #[.int .i64 2, .int .i64 n, .int .i64 (len : Int)] w fun e w' => e = .returned (.tuple #[.iface 100 (.int .i64 n), .bool ((len : Int) == 0)]) ∧ Below w.heap.size w w' := by
  go_enter Try.func73, Try.ntmps73
  go_wp2_with fail
  go_ret2
  exact ⟨rfl, Below.refl _ _⟩

set_option maxHeartbeats 400000 in
theorem nodeOf_3 (n : Int) (len : Nat) (w : World) : Calls Try.prog 73 #[.int .i64 3, .int .i64 n, .int .i64 (len : Int)] w fun e w' => e = .returned (.tuple #[.iface 101 (.int .i64 n), .bool ((len : Int) == 0)]) ∧ Below w.heap.size w w' := by
  go_enter Try.func73, Try.ntmps73
  go_wp2_with fail
  go_ret2
  exact ⟨rfl, Below.refl _ _⟩

theorem ret_node {v : Value} {a b : Bool} (h : a = b) : Ending.returned (.tuple #[v, .bool a]) = .returned (.tuple #[v, .bool b]) := by rw [h]
/-- nodeOf has handed back a node with operands -/
def OpNode (op : Int) (b : Bool) (w : World) (e : Ending) (w' : World) : Prop := e = .returned (.tuple #[.iface 82 (.agg #[.int .i64 (opKids op), .string (opMarks op)]), .bool b]) ∧ Below w.heap.size w w'
theorem opKids_range (op : Int) : 0 ≤ opKids op ∧ opKids op ≤ 3 := by
  unfold opKids
  repeat' split
  all_goals omega

set_option maxHeartbeats 800000 in
theorem nodeOf_op (op n : Int) (len : Nat) (w : World) (t1 : (op == 1) = false) (t2 : (op == 2) = false) (t3 : (op == 3) = false) :
    Calls Try.prog 73 #[.int .i64 op, .int .i64 n, .int .i64 (len : Int)] w (OpNode op (opOk op && ((n == 0) && ((len : Int) == opKids op))) w) := by
  have hkr := opKids_range op
  go_enter Try.func73, Try.ntmps73
  go_wp2_with fail
  refine (opOf_calls op _).mono ?_
  rintro e w1 ⟨rfl, hb⟩
  have HB : Hid (Below w.heap.size w w1) := hb
  have hle : w.heap.size ≤ w1.heap.size := hb.size
  clear hb
  cases hok : opOk op with
  | false =>
    have HV : Hid ((opOk op && ((n == 0) && ((len : Int) == opKids op))) = false) := by simp [Hid, hok]
    go_wp2_with fail
    have k3 := cell_regrown (box_cell w1 #[.int .i64 (opKids op), .string (opMarks op)] 82 0 _ rfl)
    have k4 := cell_regrown (box_cell w1 #[.int .i64 (opKids op), .string (opMarks op)] 82 1 _ rfl)
    refine wp_region_quiet_below (by kernel_rfl) (by kernel_rfl) ?_
    repeat (any_goals (first | go_big_quiet_step (fail) | quiet_step (fail)))
    refine wpQuiet_nil ?_
    intro _ hw'
    obtain ⟨⟨dq, osq⟩, hw''⟩ := hw'
    subst hw''
    clear k3 k4
    go_wp2_with fail
    go_ret2
    exact ⟨ret_node HV.out.symm, HB.out.trans ((box_below _ _).trans ((below_regrown _ _ _).mono (by rw [Deep.nblk_alloc]; omega)) |>.mono hle)⟩
  | true =>
    by_cases hn : n = 0
    · subst hn
      by_cases hl : (len : Int) = opKids op
      · have hl' : ((len : Int) == opKids op) = true := by simpa using hl
        have HV : Hid ((opOk op && (((0 : Int) == 0) && ((len : Int) == opKids op))) = true) := by simp [Hid, hok, hl']
        clear hl
        go_wp2_with fail
        have k3 := cell_regrown (box_cell w1 #[.int .i64 (opKids op), .string (opMarks op)] 82 0 _ rfl)
        have k4 := cell_regrown (box_cell w1 #[.int .i64 (opKids op), .string (opMarks op)] 82 1 _ rfl)
        refine wp_region_quiet_below (by kernel_rfl) (by kernel_rfl) ?_
        repeat (any_goals (first | go_big_quiet_step (fail) | quiet_step (fail)))
        refine wpQuiet_nil ?_
        intro _ hw'
        obtain ⟨⟨dq, osq⟩, hw''⟩ := hw'
        subst hw''
        clear k3 k4
        go_wp2_with fail
        go_ret2
        exact ⟨ret_node HV.out.symm, HB.out.trans ((box_below _ _).trans ((below_regrown _ _ _).mono (by rw [Deep.nblk_alloc]; omega)) |>.mono hle)⟩
      · have hl' : ((len : Int) == opKids op) = false := by simpa using hl
        have HV : Hid ((opOk op && (((0 : Int) == 0) && ((len : Int) == opKids op))) = false) := by simp [Hid, hok, hl']
        clear hl
        go_wp2_with fail
        have k3 := cell_regrown (box_cell w1 #[.int .i64 (opKids op), .string (opMarks op)] 82 0 _ rfl)
        have k4 := cell_regrown (box_cell w1 #[.int .i64 (opKids op), .string (opMarks op)] 82 1 _ rfl)
        refine wp_region_quiet_below (by kernel_rfl) (by kernel_rfl) ?_
        repeat (any_goals (first | go_big_quiet_step (fail) | quiet_step (fail)))
        refine wpQuiet_nil ?_
        intro _ hw'
        obtain ⟨⟨dq, osq⟩, hw''⟩ := hw'
        subst hw''
        clear k3 k4
        go_wp2_with fail
        go_ret2
        exact ⟨ret_node HV.out.symm, HB.out.trans ((box_below _ _).trans ((below_regrown _ _ _).mono (by rw [Deep.nblk_alloc]; omega)) |>.mono hle)⟩
    · have hn' : (n == 0) = false := by simpa using hn
      have HV : Hid ((opOk op && ((n == 0) && ((len : Int) == opKids op))) = false) := by simp [Hid, hok, hn']
      go_wp2_with fail
      have k3 := cell_regrown (box_cell w1 #[.int .i64 (opKids op), .string (opMarks op)] 82 0 _ rfl)
      have k4 := cell_regrown (box_cell w1 #[.int .i64 (opKids op), .string (opMarks op)] 82 1 _ rfl)
      refine wp_region_quiet_below (by kernel_rfl) (by kernel_rfl) ?_
      repeat (any_goals (first | go_big_quiet_step (fail) | quiet_step (fail)))
      refine wpQuiet_nil ?_
      intro _ hw'
      obtain ⟨⟨dq, osq⟩, hw''⟩ := hw'
      subst hw''
      clear k3 k4
      go_wp2_with fail
      go_ret2
      exact ⟨ret_node HV.out.symm, HB.out.trans ((box_below _ _).trans ((below_regrown _ _ _).mono (by rw [Deep.nblk_alloc]; omega)) |>.mono hle)⟩
end Go.Proofs.Ytiipcgnkfhjpeaa
/-
  THE PROGRAM's hasNumber AND sizeOfKind.
-/
namespace Go.Proofs.Ytiipcgnkfhjpeaa
set_option linter.unusedVariables false
set_option linter.unusedSimpArgs false
open Go.RowKit


theorem hasNumber_calls (op : Int) (w : World) : Calls Try.prog 39 #[.int .i64 op] w fun e w' => e = .returned (.bool (isNumOp op)) ∧ w = w' := by
  by_cases h2 : op = 2
  · subst h2
    go_enter Try.func39, Try.ntmps39
    go_wp2_with fail
    go_ret
    exact ⟨rfl, rfl⟩
  by_cases h3 : op = 3
  · subst h3
    go_enter Try.func39, Try.ntmps39
    go_wp2_with fail
    go_ret
    exact ⟨rfl, rfl⟩
  have hv : isNumOp op = false := by unfold isNumOp; simp; omega
  have h2' : (op == 2) = false := by simpa using h2
  have h3' : (op == 3) = false := by simpa using h3
  rw [hv]
  clear h2 h3 hv
  go_enter Try.func39, Try.ntmps39
  go_wp2_with fail
  go_ret
  exact ⟨rfl, rfl⟩

/-- what sizeOfKind answers as a size -/
def sizeV (op : Int) : Int := if wLen op = 0 then 1 else wLen op
theorem sizeV_ok {op : Int} (h : wLen op ≠ 0) : sizeV op = (wLen op : Int) := by unfold sizeV; rw [if_neg h]
def sizeOk (op : Int) : Bool := decide (wLen op ≠ 0)
theorem sizeV_op {op : Int} (h2 : op ≠ 2) (h3 : op ≠ 3) (h11 : op ≠ 11) : opOk op = sizeOk op ∧ 1 + opKids op = sizeV op := by
  unfold sizeOk opOk sizeV opKids wLen
  repeat' split
  all_goals (try omega)
  all_goals (refine ⟨?_, ?_⟩ <;> simp at * <;> omega)

set_option maxHeartbeats 400000 in
theorem sizeOfKind_calls (op : Int) (w : World) : Calls Try.prog 38 #[.int .i64 op] w fun e w' => e = .returned (.tuple #[.int .i64 (sizeV op), .bool (sizeOk op)]) ∧ Below w.heap.size w w' := by
  by_cases h2 : op = 2
  · subst h2
    go_enter Try.func38, Try.ntmps38
    go_wp2_with fail
    go_ret2
    exact ⟨rfl, Below.refl _ _⟩
  by_cases h3 : op = 3
  · subst h3
    go_enter Try.func38, Try.ntmps38
    go_wp2_with fail
    go_ret2
    exact ⟨rfl, Below.refl _ _⟩
  by_cases h11 : op = 11
  · subst h11
    go_enter Try.func38, Try.ntmps38
    go_wp2_with fail
    go_ret2
    exact ⟨rfl, Below.refl _ _⟩
  obtain ⟨e1, e2⟩ := sizeV_op h2 h3 h11
  have h2' : (op == 2) = false := by simpa using h2
  have h3' : (op == 3) = false := by simpa using h3
  have h11' : (op == 11) = false := by simpa using h11
  have HV := mkHid (And.intro e1 e2)
  have hkb : 0 ≤ opKids op ∧ opKids op ≤ 3 := by unfold opKids; repeat' split
                                                 all_goals omega
  clear h2 h3 h11 e1 e2
  go_enter Try.func38, Try.ntmps38
  go_wp2_with fail
  refine (opOf_calls op _).mono ?_
  rintro e w1 ⟨rfl, hb1⟩
  have HB1 := mkHid hb1
  obtain ⟨k, hk⟩ : ∃ k, k = opKids op := ⟨_, rfl⟩
  have HKE := mkHid hk
  rw [← hk] at hkb ⊢
  clear hb1 hk
  go_wp2_with fail
  refine bodyPost_ret (v := .tuple #[.int .i64 (1 + k), .bool (opOk op)]) (by simp [results, Try.results38, go_sem]) rfl ?_
  exact ⟨by rw [HV.out.1, HKE.out, HV.out.2], HB1.out.alloc HB1.out.size _⟩
end Go.Proofs.Ytiipcgnkfhjpeaa
/-
  THE PROGRAM's wordsAt, addressesIn, startsOf, placesIn.
-/
namespace Go.Proofs.Ytiipcgnkfhjpeaa
set_option linter.unusedVariables false
set_option linter.unusedSimpArgs false
open Go.RowKit


/-- a whole cell at a place? -/
def WholeAt (ws : List Int) (a : Nat) : Prop := wLen (opW ws a) ≠ 0 ∧ a + wLen (opW ws a) ≤ ws.length
set_option maxHeartbeats 800000 in
theorem wordsAt_no (ws : List Int) (a : Nat) (v : Value) (w : World) (hk : IIn w ws v) (ha : a < ws.length) (hn : ¬ WholeAt ws a) (hl : ws.length ≤ 1048576) :
    Calls Try.prog 52 #[v, .int .i64 (a : Int)] w fun e w' => e = .returned (.tuple #[.slice none 0 0, .bool false]) ∧ Below w.heap.size w w' := by
  have HK := mkHid hk
  obtain ⟨ad, cap, rfl, hlc, hm, -⟩ := hk
  unfold maxLen at hm
  obtain ⟨bl, off, rfl, d0⟩ := HK.out.at a ha
  obtain ⟨op, hop⟩ : ∃ op, op = ws[a] := ⟨_, rfl⟩
  have hn' : ¬ (wLen op ≠ 0 ∧ a + wLen op ≤ ws.length) := by rw [hop, ← opW_at ha]; exact hn
  rw [← hop] at d0
  clear hop
  go_enter Try.func52, Try.ntmps52
  go_wp2_with fail
  refine (sizeOfKind_calls op w).mono ?_
  rintro e w1 ⟨rfl, hb1⟩
  have HB1 := mkHid hb1
  clear hb1 d0
  by_cases h0 : wLen op = 0
  · have hs : sizeOk op = false := by unfold sizeOk; simp [h0]
    rw [hs]
    go_wp2_with fail
    refine bodyPost_ret (v := .tuple #[.slice none 0 0, .bool false]) (by simp [results, Try.results52, go_sem]) rfl ?_
    exact ⟨rfl, HB1.out⟩
  · have hs : sizeOk op = true := by unfold sizeOk; simp [h0]
    rw [hs, sizeV_ok h0]
    obtain ⟨n, hnn⟩ : ∃ n : Nat, n = wLen op := ⟨_, rfl⟩
    have h4 := wLen_le op
    rw [← hnn] at hn' h0 h4 ⊢
    have hbig : (ws.length : Int) - (a : Int) < (n : Int) := by omega
    clear hnn hs
    go_wp2_with fail
    refine bodyPost_ret (v := .tuple #[.slice none 0 0, .bool false]) (by simp [results, Try.results52, go_sem]) rfl ?_
    exact ⟨rfl, HB1.out⟩
set_option maxHeartbeats 800000 in
theorem wordsAt_yes (ws : List Int) (a : Nat) (bl off cap : Nat) (w : World) (hk : IIn w ws (.slice (some ⟨bl, off, none⟩) ws.length cap)) (ha : a < ws.length) (hn : WholeAt ws a) (hl : ws.length ≤ 1048576) :
    Calls Try.prog 52 #[.slice (some ⟨bl, off, none⟩) ws.length cap, .int .i64 (a : Int)] w fun e w' => e = .returned (.tuple #[.slice (some ⟨bl, off + a, none⟩) (wLen (opW ws a)) (cap - a), .bool true]) ∧ Below w.heap.size w w' := by
  have HK := mkHid hk
  obtain ⟨_, _, he1, hlc, hm, -⟩ := hk
  simp only [Value.slice.injEq, true_and] at he1
  obtain ⟨-, rfl⟩ := he1
  unfold maxLen at hm
  obtain ⟨b1, o1, he, d0⟩ := HK.out.at a ha
  simp only [Option.some.injEq, Addr.mk.injEq, and_true] at he
  obtain ⟨rfl, rfl⟩ := he
  obtain ⟨h0, hfit⟩ := hn
  rw [opW_at ha] at h0 hfit ⊢
  obtain ⟨op, hop⟩ : ∃ op, op = ws[a] := ⟨_, rfl⟩
  rw [← hop] at d0 h0 hfit ⊢
  clear hop
  have hs : sizeOk op = true := by unfold sizeOk; simp [h0]
  have hsv := sizeV_ok h0
  have HSV := mkHid (And.intro hs hsv)
  obtain ⟨n, hnn⟩ : ∃ n : Nat, n = wLen op := ⟨_, rfl⟩
  have HN := mkHid hnn
  have h4 := wLen_le op
  rw [← hnn] at h0 hfit h4 ⊢
  have hbig : ¬ (ws.length : Int) - (a : Int) < (n : Int) := by omega
  clear hnn hs hsv
  go_enter Try.func52, Try.ntmps52
  go_wp2_with fail
  refine (sizeOfKind_calls op w).mono ?_
  rintro e w1 ⟨rfl, hb1⟩
  have HB1 := mkHid hb1
  rw [HSV.out.1, HSV.out.2, ← HN.out]
  clear hb1 d0
  go_wp2_with fail
  refine bodyPost_ret (v := .tuple #[.slice (some ⟨bl, off + a, none⟩) n (cap - a), .bool true]) (by simp [results, Try.results52, go_sem]) rfl ?_
  exact ⟨rfl, HB1.out⟩
set_option maxHeartbeats 800000 in
theorem addr_num (ws : List Int) (a : Nat) (bl off cap : Nat) (w : World) (d0 : w.cell? ⟨bl, off, none⟩ = some (.int .i64 (opW ws a))) (n : Nat) (hn : 0 < n) (hnc : n ≤ cap) (hc : cap ≤ 9223372036854775807) (h : isNumOp (opW ws a) = true) :
    Calls Try.prog 68 #[.slice (some ⟨bl, off, none⟩) n cap] w fun e w' => e = .returned (.slice none 0 0) ∧ w = w' := by
  have d0' : w.cell? ⟨bl, off + 0, none⟩ = some (.int .i64 (opW ws a)) := d0
  go_enter Try.func68, Try.ntmps68
  go_wp2_with fail
  refine (hasNumber_calls _ w).mono ?_
  rintro e w1 ⟨rfl, rfl⟩
  rw [h]
  go_wp2_with fail
  go_ret
  exact ⟨rfl, rfl⟩
set_option maxHeartbeats 800000 in
theorem addr_kids (ws : List Int) (a : Nat) (bl off cap : Nat) (w : World) (d0 : w.cell? ⟨bl, off, none⟩ = some (.int .i64 (opW ws a))) (n : Nat) (hn : 2 ≤ n) (hnc : n ≤ cap) (hc : cap ≤ 9223372036854775807) (h : isNumOp (opW ws a) = false) :
    Calls Try.prog 68 #[.slice (some ⟨bl, off, none⟩) n cap] w fun e w' => e = .returned (.slice (some ⟨bl, off + 1, none⟩) (n - 1) (cap - 1)) ∧ w = w' := by
  have hne : ¬ cap = 1 := by omega
  have hn0 : 0 < n := by omega
  have d0' : w.cell? ⟨bl, off + 0, none⟩ = some (.int .i64 (opW ws a)) := d0
  go_enter Try.func68, Try.ntmps68
  go_wp2_with fail
  refine (hasNumber_calls _ w).mono ?_
  rintro e w1 ⟨rfl, rfl⟩
  rw [h]
  go_wp2_with fail
  go_ret
  exact ⟨rfl, rfl⟩
set_option maxHeartbeats 800000 in
theorem startsOf_calls (ws : List Int) (v : Value) (w : World) (hk : IIn w ws v) (hl : ws.length ≤ 1048576) :
    Calls Try.prog 64 #[v] w fun e w' => ∃ t, e = .returned (.tuple #[t, .bool (startsW ws 0).isSome]) ∧ StkI w' w.heap.size ((startsW ws 0).getD []) t ∧ Below w.heap.size w w' := by
  have HK := mkHid hk
  obtain ⟨ad, cap, rfl, hlc, hm, -⟩ := hk
  unfold maxLen at hm
  go_enter Try.func64, Try.ntmps64
  go_wp2_with fail
  go_loopw [4, 5] (fun o a wr => ∃ (p : Nat) (acc : List Int), a = .int .i64 p ∧ p ≤ ws.length ∧ acc.length ≤ p ∧ startsW ws 0 = (startsW ws p).map (acc ++ ·) ∧ StkI wr w.heap.size acc o ∧ Below w.heap.size w wr) (fun _ a _ => ws.length - (intOf a).toNat)
  case atStart => exact ⟨0, [], rfl, Nat.zero_le _, Nat.le_refl _, by simp, StkI.none _ _, Below.refl _ _⟩
  case round =>
    obtain ⟨p, acc, rfl, hp, hal, heq, hst, hb⟩ := hrel
    obtain ⟨wo, rfl⟩ : ∃ wo : World, wo = wr := ⟨_, rfl⟩
    obtain ⟨ado, no, capo, rfl⟩ := hst.form
    have HS := mkHid hst
    have HB := mkHid hb
    have HEQ := mkHid heq
    have HAL := mkHid hal
    by_cases hlt : p < ws.length
    · obtain ⟨bl, off, rfl, -⟩ := HK.out.at p hlt
      clear hst hb heq hal
      by_cases hwh : WholeAt ws p
      · have hw2 := hwh.2
        have h4 := wLen_le (opW ws p)
        have h02 := wLen_pos hwh.1
        have HNE : Hid (startsW ws 0 = (startsW ws (p + wLen (opW ws p))).map ((acc ++ [(p : Int)]) ++ ·)) := by
          have h1 := hwh.1
          rw [Hid, HEQ.out, startsW_go hlt (by rw [← opW_at hlt]; omega), ← opW_at hlt, Option.map_map]
          congr 1
          funext x
          simp
        have HWH := mkHid hwh
        clear hwh
        go_wp2_with fail
        refine (wordsAt_yes ws p bl off cap wo (HK.out.next HB.out) hlt HWH.out hl).mono ?_
        rintro e w5 ⟨rfl, hb5⟩
        have HB5 : Hid (Below w.heap.size w w5) := HB.out.trans (hb5.mono HB.out.size)
        have HS5 := mkHid (StkI.next HS.out hb5)
        obtain ⟨n, hn⟩ : ∃ n : Nat, n = wLen (opW ws p) := ⟨_, rfl⟩
        rw [← hn] at hw2 h4 h02 HNE ⊢
        clear hb5 hn
        have A1 : Hid (StkI (w5.alloc (.cells #[.int .i64 (p : Int)] 3)) w.heap.size (acc) (.slice ado no capo)) := StkI.alloc HS5.out _
        have K1 : Hid (IIn (w5.alloc (.cells #[.int .i64 (p : Int)] 3)) [(p : Int)] (.slice (some ⟨w5.heap.size, 0, none⟩) 1 1)) := oneI_in w5 (p : Int)
        have L1 : Hid (w.heap.size ≤ (w5.alloc (.cells #[.int .i64 (p : Int)] 3)).heap.size) := by rw [Hid, Deep.nblk_alloc]; have := HB5.out.size; omega
        go_wp2_with (have tk := A1; clear tk; at_builtin; go_must (refine wpList_pushI rfl _ _ rfl _ w.heap.size (acc) [(p : Int)] (.slice ado no capo) (.slice (some ⟨w5.heap.size, 0, none⟩) 1 1) rfl A1.out rfl K1.out L1.out (by have := HAL.out; simp; omega) ?_); go_must (intro v1 w7 hst1 hg1); go_must (have HB7 : Hid (Below w.heap.size w w7) := StkI.grown A1.out rfl (HB5.out.alloc HB5.out.size _) hg1); go_must (have HS7 : Hid (StkI w7 w.heap.size (acc ++ [(p : Int)]) v1) := by exact hst1); go_must (obtain ⟨ad1, n1, cap1, rfl⟩ := hst1.form); clear hst1 hg1)
        go_roundw
        case rel => first | exact ⟨p + n, acc ++ [(p : Int)], by go_num, by omega, by have := HAL.out; simp; omega, HNE.out, HS7.out, HB7.out⟩ | ((repeat apply Exists.intro); exact ⟨⟨p + n, acc ++ [(p : Int)], by go_num, by omega, by have := HAL.out; simp; omega, HNE.out, HS7.out, HB7.out⟩, rfl⟩)
        case measure => simp [intOf]; omega
      · have HV : Hid (startsW ws 0 = none) := by
          rw [Hid, HEQ.out, startsW_bad hlt (by unfold WholeAt at hwh; rw [opW_at hlt] at hwh; omega)]; rfl
        have HWH := mkHid hwh
        clear hwh
        go_wp2_with fail
        refine (wordsAt_no ws p _ wo (HK.out.next HB.out) hlt HWH.out hl).mono ?_
        rintro e w5 ⟨rfl, hb5⟩
        have HB5 : Hid (Below w.heap.size w w5) := HB.out.trans (hb5.mono HB.out.size)
        clear hb5
        go_wp2_with fail
        refine bodyPost_ret (v := .tuple #[.slice none 0 0, .bool false]) (by simp [results, Try.results64, go_sem]) rfl ?_
        rw [HV.out]
        exact ⟨_, rfl, StkI.none _ _, HB5.out⟩
    · have HV : Hid (startsW ws 0 = some acc) := by rw [Hid, HEQ.out, startsW_end (by omega)]; simp
      clear hst hb heq hal
      go_wp2_with fail
      refine bodyPost_ret (v := .tuple #[.slice ado no capo, .bool true]) (by simp [results, Try.results64, go_sem]) rfl ?_
      rw [HV.out]
      exact ⟨_, rfl, HS.out, HB.out⟩

/-- are all of these addresses there? -/
def plcB (st xs : List Int) : Bool := xs.all fun x => decide (0 ≤ idxI st x)
/-- their places, or none -/
def plcL (st xs : List Int) : List Int := if plcB st xs = true then xs.map (idxI st) else []
theorem plcL_yes {st xs : List Int} (h : plcB st xs = true) : plcL st xs = xs.map (idxI st) := by unfold plcL; rw [if_pos h]
theorem plcL_no {st xs : List Int} (h : plcB st xs = false) : plcL st xs = [] := by unfold plcL; rw [if_neg (by rw [h]; simp)]
theorem plcB_no {st xs : List Int} {q : Nat} (h : q < xs.length) (hi : ¬ 0 ≤ idxI st xs[q]) : plcB st xs = false := by
  unfold plcB; rw [List.all_eq_false]; exact ⟨xs[q], List.getElem_mem h, by simpa using hi⟩
theorem plcB_snoc {st xs : List Int} {q : Nat} (h : q < xs.length) (hi : 0 ≤ idxI st xs[q]) (ht : plcB st (xs.take q) = true) : plcB st (xs.take (q + 1)) = true := by
  unfold plcB at ht ⊢
  rw [List.take_succ_eq_append_getElem h, List.all_append, ht]; simpa using hi
set_option maxHeartbeats 800000 in
theorem placesIn_calls (st xs : List Int) (sv xv : Value) (w : World) (hs : IIn w st sv) (hx : IIn w xs xv) (ho : st.Pairwise (· < ·)) (hl : st.length ≤ 1048576) (hl2 : xs.length ≤ 1048576) :
    Calls Try.prog 65 #[sv, xv] w fun e w' => ∃ t, e = .returned (.tuple #[t, .bool (plcB st xs)]) ∧ StkI w' w.heap.size (plcL st xs) t ∧ Below w.heap.size w w' := by
  have HST := mkHid hs
  have HXS := mkHid hx
  have HO := mkHid ho
  obtain ⟨ads, caps, rfl, -, -, -⟩ := hs
  obtain ⟨ad, cap, rfl, hlc, hm, -⟩ := hx
  unfold maxLen at hm
  clear ho
  go_enter Try.func65, Try.ntmps65
  go_wp2_with fail
  go_loopw [6, 13] (fun o a wr => ∃ q : Nat, a = .int .i64 q ∧ q ≤ xs.length ∧ plcB st (xs.take q) = true ∧ StkI wr w.heap.size ((xs.take q).map (idxI st)) o ∧ Below w.heap.size w wr) (fun _ a _ => xs.length - (intOf a).toNat)
  case atStart => exact ⟨0, rfl, Nat.zero_le _, by simp [plcB], StkI.none _ _, Below.refl _ _⟩
  case round =>
    obtain ⟨q, rfl, hq, hall, hst, hb⟩ := hrel
    obtain ⟨wo, rfl⟩ : ∃ wo : World, wo = wr := ⟨_, rfl⟩
    obtain ⟨ado, no, capo, rfl⟩ := hst.form
    have HS := mkHid hst
    have HB := mkHid hb
    have HAL := mkHid hall
    by_cases hlt : q < xs.length
    · obtain ⟨bl, off, rfl, d0w⟩ := HXS.out.at q hlt
      have d0 := (hb.cell (p := ⟨bl, off + q, none⟩) (cell_lt d0w)).trans d0w
      obtain ⟨ys, hys⟩ : ∃ ys, ys = (xs.take q).map (idxI st) := ⟨_, rfl⟩
      have HYL : Hid (ys.length ≤ 1048575) := by rw [hys, Hid]; simp; omega
      obtain ⟨x, hx⟩ : ∃ x, x = xs[q] := ⟨_, rfl⟩
      have HN : Hid ((xs.take (q + 1)).map (idxI st) = ys ++ [idxI st x]) := by
        rw [Hid, List.take_succ_eq_append_getElem hlt, List.map_append, ← hys, hx]; rfl
      have HNX : Hid (¬ 0 ≤ idxI st x → plcB st xs = false) := fun h => plcB_no hlt (by rw [← hx]; exact h)
      have HYX : Hid (0 ≤ idxI st x → plcB st (xs.take (q + 1)) = true) := fun h => plcB_snoc hlt (by rw [← hx]; exact h) HAL.out
      rw [← hys] at HS
      rw [← hx] at d0
      clear hst hb hall d0w hys hx
      go_wp2_with fail
      refine (search_calls st x _ wo (HST.out.next HB.out) HO.out hl).mono ?_
      rintro e w5 ⟨i, rfl, hi, rfl⟩
      by_cases h0 : 0 ≤ idxI st x
      · have hd : decide (0 ≤ idxI st x) = true := by simpa using h0
        obtain rfl := hi h0
        rw [hd]
        have HP := mkHid (HYX.out h0)
        clear hi h0 hd d0
        have A1 : Hid (StkI (wo.alloc (.cells #[.int .i64 (idxI st x)] 3)) w.heap.size (ys) (.slice ado no capo)) := StkI.alloc HS.out _
        have K1 : Hid (IIn (wo.alloc (.cells #[.int .i64 (idxI st x)] 3)) [(idxI st x)] (.slice (some ⟨wo.heap.size, 0, none⟩) 1 1)) := oneI_in wo (idxI st x)
        have L1 : Hid (w.heap.size ≤ (wo.alloc (.cells #[.int .i64 (idxI st x)] 3)).heap.size) := by rw [Hid, Deep.nblk_alloc]; have := HB.out.size; omega
        go_wp2_with (have tk := A1; clear tk; at_builtin; go_must (refine wpList_pushI rfl _ _ rfl _ w.heap.size (ys) [(idxI st x)] (.slice ado no capo) (.slice (some ⟨wo.heap.size, 0, none⟩) 1 1) rfl A1.out rfl K1.out L1.out (by have := HYL.out; simp; omega) ?_); go_must (intro v1 w7 hst1 hg1); go_must (have HB7 : Hid (Below w.heap.size w w7) := StkI.grown A1.out rfl (HB.out.alloc HB.out.size _) hg1); go_must (have HS7 : Hid (StkI w7 w.heap.size ((xs.take (q + 1)).map (idxI st)) v1) := by rw [HN.out]; exact hst1); go_must (obtain ⟨ad1, n1, cap1, rfl⟩ := hst1.form); clear hst1 hg1)
        go_roundw
        case rel => first | exact ⟨q + 1, by go_num, by omega, HP.out, HS7.out, HB7.out⟩ | ((repeat apply Exists.intro); exact ⟨⟨q + 1, by go_num, by omega, HP.out, HS7.out, HB7.out⟩, rfl⟩)
        case measure => simp [intOf]; omega
      · have hd : decide (0 ≤ idxI st x) = false := by simpa using h0
        rw [hd]
        have HP := mkHid (HNX.out (by omega))
        clear hi h0 hd d0
        go_wp2_with fail
        refine bodyPost_ret (v := .tuple #[.slice none 0 0, .bool false]) (by simp [results, Try.results65, go_sem]) rfl ?_
        rw [HP.out, plcL_no HP.out]
        exact ⟨_, rfl, StkI.none _ _, HB.out⟩
    · have hqe : q = xs.length := by omega
      have HV : Hid (plcB st xs = true) := by have h := HAL.out; rw [hqe, List.take_length] at h; exact h
      have HS2 : Hid (StkI wo w.heap.size (xs.map (idxI st)) (.slice ado no capo)) := by have h := HS.out; rw [hqe, List.take_length] at h; exact h
      clear hst hb hall hqe
      go_wp2_with fail
      refine bodyPost_ret (v := .tuple #[.slice ado no capo, .bool true]) (by simp [results, Try.results65, go_sem]) rfl ?_
      rw [HV.out, plcL_yes HV.out]
      exact ⟨_, rfl, HS2.out, HB.out⟩
end Go.Proofs.Ytiipcgnkfhjpeaa
