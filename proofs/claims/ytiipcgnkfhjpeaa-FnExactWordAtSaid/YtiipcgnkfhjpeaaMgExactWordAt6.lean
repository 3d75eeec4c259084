/-
  THE PROGRAM's unpack, UnpackWords, AddressesOf.
-/
import Derived.Test.YtiipcgnkfhjpeaaMgExactWordAt5
import Derived.Test.YtiipcgnkfhjpeaaMgExactWordAt4
import Derived.Test.YtiipcgnkfhjpeaaMgExactWordAt3
import Derived.Test.YtiipcgnkfhjpeaaMgExactWordAt2
import Derived.Test.YtiipcgnkfhjpeaaMgExactWordAt1
import Derived.Test.YtiipcgnkfhjpeaaProg
import Derived.Deep.RegionHeld3
namespace Go.Proofs.Ytiipcgnkfhjpeaa
set_option linter.unusedVariables false
set_option linter.unusedSimpArgs false
open Go.RowKit


theorem oc_formI {w : World} {lo : Nat} {S : Nat → Prop} {g : List Ce} {v : Value} (h : OwnC w lo S g v) : ∃ ad n cap, v = .slice ad n cap := by obtain ⟨ad, cap, e⟩ := h.form; exact ⟨ad, _, cap, e⟩
theorem cellW_64I {ws : List Int} {a : Nat} (hw : ∀ x ∈ ws, I64 x) (ha : a < ws.length) (h : WholeAt ws a) : I64 (cellW ws a).op ∧ I64 (cellW ws a).num := by
  have h2 := wLen_pos h.1
  have h3 := h.2
  refine ⟨by rw [cellW_op, opW_at ha]; exact hw _ (List.getElem_mem ha), ?_⟩
  cases h : isNumOp (opW ws a) with
  | true => rw [cellW_num h]; show I64 (opW ws (a + 1)); rw [opW_at (by omega)]; exact hw _ (List.getElem_mem _)
  | false => rw [cellW_kid h]; unfold I64; simp
theorem ow_low {w : World} {lo lo' : Nat} {g : List Ce} {v : Value} (h : OwnC w lo (fun b => lo ≤ b) g v) (hl : lo' ≤ lo) : OwnC w lo' (fun b => lo' ≤ b) g v := by
  obtain ⟨hi0, xs, kb, h1, h2, h3⟩ := h
  refine ⟨hi0, xs, kb, ⟨h1.1, ?_⟩, fun j hj => ?_, h3⟩
  · rcases h1.2 with h | ⟨g, cap, cur, rfl, hg, r⟩
    · exact Or.inl h
    · exact Or.inr ⟨g, cap, cur, rfl, Nat.le_trans hl hg, r⟩
  · obtain ⟨kv, e0, e1, e2, e3⟩ := h2 j hj
    exact ⟨kv, e0, e1, e2, e3.keep (fun k hk _ => Nat.le_trans hl hk) fun _ _ _ _ => rfl⟩
theorem plcB_all {st xs : List Int} (h : plcB st xs = false) : ∃ x ∈ xs, idxI st x = -1 := by
  unfold plcB at h
  rw [List.all_eq_false] at h
  obtain ⟨x, hx, h1⟩ := h
  refine ⟨x, hx, ?_⟩
  have := (idxI_bound st x).1
  simp at h1
  omega
/-- a graph in rows of its own and addresses, and whether there are any -/
def OwnUnp (r : List Ce × List Int × Bool) (w : World) (e : Ending) (w' : World) : Prop := ∃ gv t, e = .returned (.tuple #[gv, t, .bool r.2.2]) ∧ OwnC w' w.heap.size (fun b => w.heap.size ≤ b) r.1 gv ∧ IntRow w' w.heap.size r.2.1 t ∧ Below w.heap.size w w'
set_option maxRecDepth 100000 in
set_option maxHeartbeats 1600000 in
theorem unpack_calls (ws : List Int) (v : Value) (w : World) (hk : IIn w ws v) (hw : ∀ x ∈ ws, I64 x) (hl : ws.length ≤ 1048576) :
    Calls Try.prog 41 #[v] w (OwnUnp (unpO ws) w) := by
  have HK := mkHid hk
  have HW := mkHid hw
  obtain ⟨ad, cap, rfl, hlc, hm, -⟩ := hk
  unfold maxLen at hm
  clear hw
  go_enter Try.func41, Try.ntmps41
  have HNIL : Hid (∀ w', Below w.heap.size w w' → unpO ws = ([], [], false) → OwnUnp (unpO ws) w (.returned (.tuple #[.slice none 0 0, .slice none 0 0, .bool false])) w') := fun w' hb h => by
    rw [h]; exact ⟨_, _, rfl, OwnC.nil _ _ _, IntRow.none _ _, hb⟩
  by_cases hbig : ws.length ≤ 1600
  case neg =>
    have HV := mkHid (unpO_long hbig)
    have hb' : (1600 : Int) < (ws.length : Int) := by omega
    clear hbig
    go_wp2_with fail
    refine bodyPost_ret (v := .tuple #[.slice none 0 0, .slice none 0 0, .bool false]) (by simp [results, Try.results41, go_sem]) rfl ?_
    exact HNIL.out _ (Below.refl _ _) HV.out
  go_wp2_with fail
  refine (startsOf_calls ws _ w HK.out hl).mono ?_
  rintro e w2 ⟨sv, rfl, hsv, hb2⟩
  have HB2 := mkHid hb2
  have HSV := mkHid hsv
  clear hsv hb2
  obtain ⟨bs, hbs⟩ : ∃ bs, bs = (startsW ws 0).isSome := ⟨_, rfl⟩
  rw [← hbs]
  cases hst : startsW ws 0 with
  | none =>
    have HV := mkHid (unpO_none hst)
    obtain rfl : bs = false := by rw [hbs, hst]; rfl
    clear hst hbs
    go_wp2_with fail
    refine bodyPost_ret (v := .tuple #[.slice none 0 0, .slice none 0 0, .bool false]) (by simp [results, Try.results41, go_sem]) rfl ?_
    exact HNIL.out _ HB2.out HV.out
  | some st =>
    rw [hst] at HSV
    obtain rfl : bs = true := by rw [hbs, hst]; rfl
    clear hbs
    have HST := mkHid hst
    have HSO := mkHid (starts_sorted hst)
    have hsm := starts_small hst
    have HSC : Hid (∀ x ∈ st, CellAt ws x) := fun x hx => starts_cell HST.out hx
    clear hst
    have HSR : Hid (IntRow w2 w.heap.size st sv) := (show StkI w2 w.heap.size st sv from HSV.out).row
    have HSI : Hid (IIn w2 st sv) := HSR.out.inn
    obtain ⟨ads, caps, rfl, -, -, -⟩ := id HSI.out
    obtain ⟨iC, zC, hII⟩ := infoC1
    have HII := mkHid hII
    clear hII
    go_wp2_with fail
    go_loopw [7, 25] (fun o i wr => ∃ j : Nat, j ≤ st.length ∧ i = .int .i64 j ∧ OwnC wr w2.heap.size (fun b => w2.heap.size ≤ b ∧ b < wr.heap.size) (graphTo ws st j) o ∧ Below w2.heap.size w2 wr) (fun _ i _ => st.length - (intOf i).toNat)
    case atStart => exact ⟨0, Nat.zero_le _, rfl, by rw [graphTo_zero]; exact OwnC.nil _ _ _, Below.refl _ _⟩
    case round =>
      obtain ⟨j, hj, rfl, hown, hb⟩ := hrel
      obtain ⟨wo, rfl⟩ : ∃ wo : World, wo = wr := ⟨_, rfl⟩
      obtain ⟨ado, capo, rfl⟩ := hown.form
      rw [graphTo_len hj] at hown ⊢
      have HO := mkHid hown
      have HB := mkHid hb
      by_cases hlt : j < st.length
      · obtain ⟨b0, o0, rfl, d0w⟩ := HSI.out.at j hlt
        obtain ⟨a, hae, ha, hc, he⟩ := HSC.out _ (List.getElem_mem hlt)
        rw [hae] at d0w
        have d0 := (hb.cell (p := ⟨b0, o0 + j, none⟩) (cell_lt d0w)).trans d0w
        have HSN := mkHid (graphTo_snoc (ws := ws) hlt hae)
        have HMISS : Hid (∀ x ∈ (cellW ws a).kids, idxI st x = -1 → graphB (graphW ws st) 6 = false) := fun x hx hi => graph_miss hlt hae hx hi
        rw [← opW_at ha] at hc he
        have HWA : Hid (WholeAt ws a) := ⟨hc, he⟩
        have H64 := mkHid (cellW_64I HW.out ha HWA.out)
        obtain ⟨bl, off, rfl, -⟩ := HK.out.at a ha
        have HKW : Hid (∀ W, Below w2.heap.size w2 W → IIn W ws (.slice (some ⟨bl, off, none⟩) ws.length cap)) := fun W hW => HK.out.next (HB2.out.trans (hW.mono HB2.out.size))
        clear hown hb d0w hae hc he
        go_wp2_with fail
        refine (wordsAt_yes ws a bl off cap wo (HKW.out wo HB.out) ha HWA.out hl).mono ?_
        rintro e w5 ⟨rfl, hb5⟩
        have HB5 : Hid (Below wo.heap.size wo w5) := hb5
        obtain ⟨n, hn⟩ : ∃ n : Nat, n = wLen (opW ws a) := ⟨_, rfl⟩
        rw [← hn]
        have HCI : Hid (∀ W, Below w2.heap.size w2 W → CellIn ws a n bl (off + a) (cap - a) W) := fun W hW => by
          have h2 := wLen_pos HWA.out.1
          have h3 := HWA.out.2
          rw [← hn] at h2 h3
          refine ⟨hn, h2, by omega, by omega, fun q hq => ?_, h3⟩
          obtain ⟨b9, o9, e9, d9⟩ := (HKW.out W hW).at (a + q) (by omega)
          simp only [Option.some.injEq, Addr.mk.injEq, and_true] at e9
          obtain ⟨rfl, rfl⟩ := e9
          rw [opW_at (by omega), Nat.add_assoc]
          exact d9
        clear hb5 hn d0 ha
        go_wp2_with fail
        refine (cellOf_calls ws a n bl (off + a) (cap - a) w5 (HCI.out w5 (HB.out.trans (HB5.out.mono HB.out.size))) hl).mono ?_
        rintro e w6 ⟨kv, rfl, hkv, hb6⟩
        obtain ⟨c, hcw⟩ : ∃ c, c = cellW ws a := ⟨_, rfl⟩
        have HKL : Hid (c.kids.length ≤ 3) := by
          rw [hcw, Hid]
          have h4 := wLen_le (opW ws a)
          cases hnum : isNumOp (opW ws a) with
          | true => rw [cellW_num hnum]; simp
          | false => rw [cellW_kid hnum, List.length_take]; omega
        rw [← hcw] at HSN H64 hkv HMISS ⊢
        obtain ⟨adk, nk, capk, rfl⟩ := hkv.form
        have HKV := mkHid hkv
        have HB6 : Hid (Below wo.heap.size wo w6) := HB5.out.trans (hb6.mono HB5.out.size)
        clear hcw hkv hb6
        obtain ⟨w7, hw7⟩ : ∃ w7 : World, w7 = w6.alloc (.cells #[.int .i64 c.op, .int .i64 c.num, .slice adk nk capk] 40) := ⟨_, rfl⟩
        have HX7 : Hid (w7.heap[w6.heap.size]? = some (.cells #[.int .i64 c.op, .int .i64 c.num, .slice adk nk capk] 40)) := by rw [hw7]; exact Deep.blk_alloc_new _ _
        have HB7 : Hid (Below wo.heap.size wo w7) := by rw [hw7]; exact HB6.out.alloc HB6.out.size _
        have HK7 : Hid (IIn w7 c.kids (.slice adk nk capk)) := by rw [hw7]; exact (StkI.alloc HKV.out _).row.inn
        have HS7 : Hid (IIn w7 st (.slice (some ⟨b0, o0, none⟩) st.length caps)) := HSI.out.next (HB.out.trans (HB7.out.mono HB.out.size))
        go_wp2_with fail
        rw [← hw7]
        clear hw7
        have x2 := cell_of_blk HX7.out 2 _ rfl
        go_wp2_with fail
        refine (placesIn_calls st c.kids _ _ w7 HS7.out HK7.out HSO.out (by omega) (by have := HKL.out; omega)).mono ?_
        rintro e w8 ⟨tv, rfl, htv, hb8⟩
        have HX8 := mkHid ((hb8.block _ (Array.getElem?_eq_some_iff.1 HX7.out).1).trans HX7.out)
        have HB8 : Hid (Below wo.heap.size wo w8) := HB7.out.trans (hb8.mono HB7.out.size)
        have HT8 := mkHid htv
        have HL8 : Hid (w6.heap.size < w7.heap.size) := (Array.getElem?_eq_some_iff.1 HX7.out).1
        obtain ⟨adt, nt, capt, rfl⟩ := htv.form
        have y2 := cell_of_blk HX8.out 2 _ rfl
        have fy := frz_of_blk HX8.out
        clear htv hb8 x2
        cases hp : plcB st c.kids with
        | false =>
          obtain ⟨x, hx, hxi⟩ := plcB_all hp
          have HV := mkHid (unpO_bad HST.out (HMISS.out x hx hxi))
          clear hp hx hxi
          go_wp2_with fail
          refine bodyPost_ret (v := .tuple #[.slice none 0 0, .slice none 0 0, .bool false]) (by simp [results, Try.results41, go_sem]) rfl ?_
          exact HNIL.out _ ((HB2.out.trans (HB.out.mono HB2.out.size)).trans ((HB8.out.mono (Nat.le_trans HB2.out.size HB.out.size)).setCell (by show _ ≤ w6.heap.size; exact Nat.le_trans (Nat.le_trans HB2.out.size HB.out.size) HB6.out.size) _)) HV.out
        | true =>
          have HT9 : Hid (StkI w8 w7.heap.size (cellP st c).kids (.slice adt nt capt)) := by
            have h := HT8.out
            rw [plcL_yes hp] at h
            exact h
          clear hp
          obtain ⟨wq, hwq⟩ : ∃ wq : World, wq = w8.setCell ⟨w6.heap.size, 2, none⟩ (.slice adt nt capt) := ⟨_, rfl⟩
          have HXQ : Hid (wq.heap[w6.heap.size]? = some (.cells #[.int .i64 c.op, .int .i64 c.num, .slice adt nt capt] 40)) := by rw [hwq]; exact c2_blk HX8.out
          have HBQ : Hid (Below wo.heap.size wo wq) := by rw [hwq]; exact HB8.out.setCell HB6.out.size _
          have HKA : Hid (StkI wq wo.heap.size (cellP st c).kids (.slice adt nt capt)) := by
            rw [hwq]
            exact (HT9.out.keep fun k hk _ => Below.heap_setCell _ _ _ _ (by show k ≠ w6.heap.size; have := HL8.out; omega)).lower HB7.out.size
          have q0 := cell_of_blk HXQ.out 0 _ rfl
          have q1 := cell_of_blk HXQ.out 1 _ rfl
          have q2 := cell_of_blk HXQ.out 2 _ rfl
          rw [hwq] at q0 q1 q2
          have HOA : Hid (OwnC (wq.alloc (.cells #[.int .i64 c.op, .int .i64 c.num, .slice adt nt capt] 40)) w2.heap.size (fun b => w2.heap.size ≤ b ∧ b < wo.heap.size) (graphTo ws st j) (.slice ado j capo)) := (HO.out.keepB HBQ.out).next (fun _ h _ => h) (fun b _ hb => Deep.blk_alloc_lt _ _ _ hb) (fun b _ hb => Deep.blk_alloc_lt _ _ _ hb)
          obtain ⟨xs, hx⟩ := HOA.out.row
          rw [graphTo_len hj] at hx
          have HX := mkHid hx
          have hj9 : j ≤ 800 := by omega
          have HSZ : Hid (w2.heap.size ≤ wo.heap.size ∧ wo.heap.size ≤ wq.heap.size) := ⟨HB.out.size, HBQ.out.size⟩
          have HNW : Hid (∀ (k : Nat) (u : Value), [.int .i64 c.op, .int .i64 c.num, .slice adt nt capt][k]? = some u → (wq.alloc (.cells #[.int .i64 c.op, .int .i64 c.num, .slice adt nt capt] 40)).cell? ((⟨w8.heap.size, 0, none⟩ : Addr).add k) = some u) := fun k u hu => by
            have h := news3c wq (.int .i64 c.op) (.int .i64 c.num) (.slice adt nt capt) k u hu
            have e : wq.heap.size = w8.heap.size := by rw [hwq, size_setCell]
            rw [e] at h
            exact h
          clear hx
          subst hwq
          go_wp2_with (at_builtin; go_must (refine wpList_append_where _ rfl _ _ 27 rfl w2.heap.size 40 iC zC 3 40 Try.underlying27 HII.out.1 HII.out.2.1 HII.out.2.2.1 HII.out.2.2.2.1 HII.out.2.2.2.2 (by decide) (.slice ado j capo) j xs rfl HX.out ⟨w8.heap.size, 0, none⟩ 1 1 [.int .i64 c.op, .int .i64 c.num, .slice adt nt capt] rfl rfl HNW.out (by simp [Value.oneCell']) (by unfold maxLen; omega) (by omega) (by rw [Deep.nblk_alloc]; have := HSZ.out; omega) (by omega) ?_); go_must (intro v' w9 hown hg5 hw5); go_must (have HB9 : Hid (Below w2.heap.size w2 w9) := below_grown ((HB.out.trans (HBQ.out.mono HB.out.size)).alloc (by have := HSZ.out; omega) _) hg5 (fun k hk => own_lo HX.out hk.symm)); go_must (have HO9 : Hid (OwnC w9 w2.heap.size (fun b => w2.heap.size ≤ b ∧ b < w9.heap.size) (graphTo ws st (j + 1)) v') := by rw [HSN.out]; exact OwnC.push (c := cellP st c) HOA.out (StkI.alloc HKA.out _) HSZ.out.1 (by rw [Deep.nblk_alloc]; have := HSZ.out; omega) H64.out (by rw [graphTo_len hj]; exact HX.out) (by rw [graphTo_len hj]; exact hown) hg5); go_must (obtain ⟨ad9, n9, cap9, rfl⟩ := oc_formI HO9.out); clear hown hg5 hw5 q0 q1 q2 y2 fy)
          go_roundw
          case rel => first | exact ⟨j + 1, by omega, by go_num, HO9.out, HB9.out⟩ | ((repeat apply Exists.intro); exact ⟨⟨j + 1, by omega, by go_num, HO9.out, HB9.out⟩, rfl⟩)
          case measure => simp [intOf]; omega
      · have hje : j = st.length := by omega
        have HOG : Hid (OwnC wo w2.heap.size (fun b => w2.heap.size ≤ b ∧ b < wo.heap.size) (graphW ws st) (.slice ado j capo)) := by
          have h := HO.out
          rw [hje, graphTo_all] at h
          rw [hje]; exact h
        have HCI : Hid (CIn wo (graphW ws st) (.slice ado j capo)) := HOG.out.inn fun k h _ => h.1
        have HBW : Hid (Below w.heap.size w wo) := HB2.out.trans (HB.out.mono HB2.out.size)
        have HS9 : Hid (IntRow wo w.heap.size st (.slice ads st.length caps)) := HSR.out.next HB.out
        clear hown hb hje
        go_wp2_with fail
        refine (implGraph_calls (graphW ws st) 6 _ _ HCI.out).mono ?_
        rintro e w7 ⟨rfl, hb7⟩
        have HB7 : Hid (Below w.heap.size w w7) := HBW.out.trans (hb7.mono HBW.out.size)
        have HC7 : Hid (OwnC w7 w.heap.size (fun b => w.heap.size ≤ b) (graphW ws st) (.slice ado j capo)) := ow_low ((HOG.out.keepB hb7).next (S' := fun b => w2.heap.size ≤ b) (fun _ h _ => h.1) (fun _ _ _ => rfl) (fun _ _ _ => rfl)) HB2.out.size
        have HS7 := mkHid (HS9.out.next hb7)
        clear hb7
        cases hg : graphB (graphW ws st) 6 with
        | false =>
          have HV := mkHid (unpO_bad HST.out hg)
          clear hg
          go_wp2_with fail
          refine bodyPost_ret (v := .tuple #[.slice none 0 0, .slice none 0 0, .bool false]) (by simp [results, Try.results41, go_sem]) rfl ?_
          exact HNIL.out _ HB7.out HV.out
        | true =>
          have HV := mkHid (unpO_yes hbig HST.out hg)
          clear hg
          go_wp2_with fail
          refine bodyPost_ret (v := .tuple #[.slice ado j capo, .slice ads st.length caps, .bool true]) (by simp [results, Try.results41, go_sem]) rfl ?_
          rw [HV.out]
          exact ⟨_, _, rfl, HC7.out, HS7.out, HB7.out⟩

set_option maxHeartbeats 400000 in
theorem implAddr_calls (ws : List Int) (v : Value) (w : World) (hk : IIn w ws v) (hw : ∀ x ∈ ws, I64 x) (hl : ws.length ≤ 1048576) :
    Calls Try.prog 30 #[v] w fun e w' => ∃ t, e = .returned (.tuple #[t, .bool (unpO ws).2.2]) ∧ IntRow w' w.heap.size (unpO ws).2.1 t ∧ Below w.heap.size w w' := by
  have HK := mkHid hk
  obtain ⟨ad, cap, rfl, -, -, -⟩ := hk
  obtain ⟨r, hr⟩ : ∃ r, r = unpO ws := ⟨_, rfl⟩
  have HR := mkHid hr
  rw [← hr]
  clear hr
  go_enter Try.func30, Try.ntmps30
  go_wp2_with fail
  refine (unpack_calls ws _ w HK.out hw hl).mono ?_
  rw [← HR.out]
  rintro e w1 ⟨gv, t, rfl, h1, h2, h3⟩
  have H1 := mkHid (And.intro h2 h3)
  clear h1 h2 h3
  go_wp2_with fail
  refine bodyPost_ret (v := .tuple #[t, .bool r.2.2]) (by simp [results, Try.results30, go_sem]) rfl ?_
  exact ⟨_, rfl, H1.out.1, H1.out.2⟩
end Go.Proofs.Ytiipcgnkfhjpeaa
/-
  THE PROGRAM's haveCells AND WordAt.
-/
namespace Go.Proofs.Ytiipcgnkfhjpeaa
set_option linter.unusedVariables false
set_option linter.unusedSimpArgs false
open Go.RowKit


theorem plcB_one {st : List Int} {x : Int} : plcB st [x] = true ↔ x ∈ st := by unfold plcB; simp [← idxI_mem]
/-- are all of these addresses those of cells? -/
def haveB (ws xs : List Int) : Bool := (unpO ws).2.2 && plcB (unpO ws).2.1 xs
set_option maxHeartbeats 400000 in
theorem haveCells_calls (ws xs : List Int) (v xv : Value) (w : World) (hk : IIn w ws v) (hx : IIn w xs xv) (hw : ∀ y ∈ ws, I64 y) (hl : ws.length ≤ 1048576) (hl2 : xs.length ≤ 1048576) :
    Calls Try.prog 45 #[v, xv] w fun e w' => e = .returned (.bool (haveB ws xs)) ∧ Below w.heap.size w w' := by
  have HK := mkHid hk
  have HXS := mkHid hx
  obtain ⟨ad, cap, rfl, -, -, -⟩ := hk
  obtain ⟨adx, capx, rfl, -, -, -⟩ := hx
  obtain ⟨st, hst⟩ : ∃ st, st = (unpO ws).2.1 := ⟨_, rfl⟩
  obtain ⟨ok, hok⟩ : ∃ ok, ok = (unpO ws).2.2 := ⟨_, rfl⟩
  have HSO : Hid (st.Pairwise (· < ·)) := by rw [hst]; exact unpO_sorted ws
  have HSL : Hid (st.length ≤ 1048576) := by rw [hst]; exact unpO_len ws
  have HAD : Hid (∀ W, Below w.heap.size w W → Calls Try.prog 30 #[.slice ad ws.length cap] W fun e w' => ∃ t, e = .returned (.tuple #[t, .bool ok]) ∧ IntRow w' W.heap.size st t ∧ Below W.heap.size W w') := fun W hW => by
    rw [hst, hok]; exact implAddr_calls ws _ W (HK.out.next hW) hw hl
  have HV : Hid (haveB ws xs = (ok && plcB st xs)) := by rw [hst, hok]; rfl
  rw [HV.out]
  clear hst hok
  go_enter Try.func45, Try.ntmps45
  go_wp2_with fail
  refine (HAD.out w (Below.refl _ _)).mono ?_
  rintro e w1 ⟨t, rfl, ht, hb1⟩
  have HT := mkHid ht.inn
  have HB1 := mkHid hb1
  obtain ⟨adt, capt, rfl, -, -, -⟩ := id ht
  clear ht hb1
  cases ok with
  | false =>
    go_wp2_with fail
    go_ret
    exact ⟨rfl, HB1.out⟩
  | true =>
    go_wp2_with fail
    refine (placesIn_calls st xs _ _ w1 HT.out (HXS.out.next HB1.out) HSO.out HSL.out hl2).mono ?_
    rintro e w2 ⟨t2, rfl, -, hb2⟩
    have HB2 : Hid (Below w.heap.size w w2) := HB1.out.trans (hb2.mono HB1.out.size)
    clear hb2
    go_wp2_with fail
    go_ret
    exact ⟨by simp, HB2.out⟩
set_option maxHeartbeats 800000 in
theorem implWord_calls (ws : List Int) (x : Int) (v : Value) (w : World) (hk : IIn w ws v) (hw : ∀ y ∈ ws, I64 y) (hl : ws.length ≤ 1048576) :
    Calls Try.prog 25 #[v, .int .i64 x] w (NewWord (wordO ws x) w) := by
  have HK := mkHid hk
  obtain ⟨ad, cap, rfl, hlc, hm, -⟩ := hk
  unfold maxLen at hm
  obtain ⟨W, hW⟩ : ∃ W, W = (w.alloc (.cells #[.int .i64 0, .int .i64 0, .slice none 0 0] 40)).alloc (.cells #[.int .i64 x] 3) := ⟨_, rfl⟩
  have HB : Hid (Below w.heap.size w W) := by rw [hW]; exact (box_below _ _).alloc (by rw [Deep.nblk_alloc]; omega) _
  have HX : Hid (W.heap[w.heap.size]? = some (.cells #[.int .i64 0, .int .i64 0, .slice none 0 0] 40)) := by rw [hW]; exact (Deep.blk_alloc_lt _ _ _ (by rw [Deep.nblk_alloc]; omega)).trans (Deep.blk_alloc_new _ _)
  have HL : Hid (W.heap.size = w.heap.size + 2) := by rw [hW, Hid, Deep.nblk_alloc, Deep.nblk_alloc]
  have HXI : Hid (IIn W [x] (.slice (some ⟨w.heap.size + 1, 0, none⟩) 1 1)) := by
    have h := oneI_in (w.alloc (.cells #[.int .i64 0, .int .i64 0, .slice none 0 0] 40)) x
    rw [Deep.nblk_alloc] at h
    rw [hW]; exact h
  obtain ⟨hv, hhv⟩ : ∃ hv, hv = haveB ws [x] := ⟨_, rfl⟩
  have HHV := mkHid hhv
  have HCA : Hid (Calls Try.prog 45 #[.slice ad ws.length cap, .slice (some ⟨w.heap.size + 1, 0, none⟩) 1 1] W fun e w' => e = .returned (.bool hv) ∧ Below W.heap.size W w') := by
    rw [hhv]; exact haveCells_calls ws [x] _ _ W (HK.out.next HB.out) HXI.out hw hl (by simp)
  clear hhv
  go_enter Try.func25, Try.ntmps25
  go_wp2_with fail
  rw [← hW]
  clear hW
  refine HCA.out.mono ?_
  rintro e w1 ⟨rfl, hb1⟩
  have HB1 : Hid (Below w.heap.size w w1) := HB.out.trans (hb1.mono HB.out.size)
  have HX1 := mkHid ((hb1.block _ (Array.getElem?_eq_some_iff.1 HX.out).1).trans HX.out)
  have HL1 : Hid (w.heap.size + 1 ≤ w1.heap.size) := by have := hb1.size; have := HL.out; unfold Hid; omega
  clear hb1
  have x0 := cell_of_blk HX1.out 0 _ rfl
  have x1 := cell_of_blk HX1.out 1 _ rfl
  have x2 := cell_of_blk HX1.out 2 _ rfl
  have fx := frz_of_blk HX1.out
  cases hvv : hv with
  | false =>
    have HN : Hid (¬ ((unpO ws).2.2 = true ∧ x ∈ (unpO ws).2.1)) := fun h => by
      have h2 := HHV.out
      unfold haveB at h2
      rw [h.1, plcB_one.2 h.2, hvv] at h2
      cases h2
    clear hvv
    go_wp2_with fail
    have hb := s3_blk (b0 := .int .i64 0) (b1 := .int .i64 0) (b2 := .slice none 0 0) HX1.out
    refine bodyPost_ret (v := .tuple #[.agg #[.int .i64 0, .int .i64 0, .slice none 0 0], .bool false]) (by simp [results, Try.results25, go_sem, cell_of_blk hb 0 _ rfl, cell_of_blk hb 1 _ rfl, cell_of_blk hb 2 _ rfl]) rfl ?_
    rw [wordO_no HN.out]
    exact ⟨_, rfl, StkI.none _ _, s3_below HB1.out (Nat.le_refl _)⟩
  | true =>
    have HY : Hid ((unpO ws).2.2 = true ∧ x ∈ (unpO ws).2.1) := by
      have h2 := HHV.out
      unfold haveB at h2
      rw [hvv] at h2
      have h3 := h2.symm
      rw [Bool.and_eq_true] at h3
      exact ⟨h3.1, plcB_one.1 h3.2⟩
    obtain ⟨a, rfl, ha, hc, he⟩ := unpO_cell HY.out.1 HY.out.2
    have HV : Hid (wordO ws (a : Int) = (cellW ws a, true)) := by rw [Hid, wordO_yes HY.out, Int.toNat_natCast]
    have HWA : Hid (WholeAt ws a) := ⟨hc, he⟩
    obtain ⟨bl, off, rfl, -⟩ := HK.out.at a ha
    have HKW : Hid (∀ W, Below w.heap.size w W → IIn W ws (.slice (some ⟨bl, off, none⟩) ws.length cap)) := fun W hW => HK.out.next hW
    clear hvv hc he
    go_wp2_with fail
    refine (wordsAt_yes ws a bl off cap w1 (HKW.out w1 HB1.out) ha HWA.out hl).mono ?_
    rintro e w5 ⟨rfl, hb5⟩
    have HB5 : Hid (Below w.heap.size w w5) := HB1.out.trans (hb5.mono HB1.out.size)
    have HX5 := mkHid ((hb5.block _ (by have := HL1.out; omega)).trans HX1.out)
    have HL5 : Hid (w.heap.size + 1 ≤ w5.heap.size) := Nat.le_trans HL1.out hb5.size
    obtain ⟨n, hn⟩ : ∃ n : Nat, n = wLen (opW ws a) := ⟨_, rfl⟩
    rw [← hn]
    have HCI : Hid (CellIn ws a n bl (off + a) (cap - a) w5) := by
      have h2 := wLen_pos HWA.out.1
      have h3 := HWA.out.2
      rw [← hn] at h2 h3
      refine ⟨hn, h2, by omega, by omega, fun q hq => ?_, h3⟩
      obtain ⟨b9, o9, e9, d9⟩ := (HKW.out w5 HB5.out).at (a + q) (by omega)
      simp only [Option.some.injEq, Addr.mk.injEq, and_true] at e9
      obtain ⟨rfl, rfl⟩ := e9
      rw [opW_at (by omega), Nat.add_assoc]
      exact d9
    clear hb5 hn x0 x1 x2 fx
    go_wp2_with fail
    refine (cellOf_calls ws a n bl (off + a) (cap - a) w5 HCI.out hl).mono ?_
    rintro e w6 ⟨kv, rfl, hkv, hb6⟩
    have HX6 := mkHid ((hb6.block _ (by have := HL5.out; omega)).trans HX5.out)
    have HB6 : Hid (Below w.heap.size w w6) := HB5.out.trans (hb6.mono HB5.out.size)
    have HKV := mkHid hkv
    obtain ⟨adk, nk, capk, rfl⟩ := hkv.form
    obtain ⟨c, hcw⟩ : ∃ c, c = cellW ws a := ⟨_, rfl⟩
    rw [← hcw] at HKV HV ⊢
    clear hkv hb6 hcw
    have x0 := cell_of_blk HX6.out 0 _ rfl
    have x1 := cell_of_blk HX6.out 1 _ rfl
    have x2 := cell_of_blk HX6.out 2 _ rfl
    have fx := frz_of_blk HX6.out
    go_wp2_with fail
    have hb := s3_blk (b0 := .int .i64 c.op) (b1 := .int .i64 c.num) (b2 := .slice adk nk capk) HX6.out
    refine bodyPost_ret (v := .tuple #[.agg #[.int .i64 c.op, .int .i64 c.num, .slice adk nk capk], .bool true]) (by simp [results, Try.results25, go_sem, cell_of_blk hb 0 _ rfl, cell_of_blk hb 1 _ rfl, cell_of_blk hb 2 _ rfl]) rfl ?_
    rw [HV.out]
    exact ⟨_, rfl, (HKV.out.keep fun k hk _ => s3_far (by have := HL5.out; omega)).lower (by have := HL5.out; omega), s3_below HB6.out (Nat.le_refl _)⟩
end Go.Proofs.Ytiipcgnkfhjpeaa
/-
  ONE ROW OF NUMBERS OF ITS OWN; a graph that keeps its rows while it is marked.
-/
namespace Go.Proofs.Ytiipcgnkfhjpeaa
set_option linter.unusedVariables false
set_option linter.unusedSimpArgs false
open Go.RowKit

/-- numbers in the row b -/
def OneRow (w : World) (b : Nat) (X : List Int) (v : Value) : Prop := KRow w [b] X b v
theorem OneRow.keep {w w' : World} {b : Nat} {X : List Int} {v : Value} (h : OneRow w b X v) (hb : ∀ k, k = b → k < w.heap.size → w'.heap[k]? = w.heap[k]?) : OneRow w' b X v := by
  unfold OneRow at h ⊢
  refine h.keep (fun _ h => h) fun hx hm => ?_
  obtain ⟨_, _, _, _, _, h5⟩ := h
  rcases h5 with h5 | ⟨f5, -, -, h6, -⟩
  · exact absurd h5 hx
  · exact hb _ rfl h6.lt
theorem OneRow.next {w w' : World} {b : Nat} {X : List Int} {v : Value} (h : OneRow w b X v) (hb : Below w.heap.size w w') : OneRow w' b X v := h.keep fun k _ hk => hb.block k hk
theorem OneRow.form {w : World} {b : Nat} {X : List Int} {v : Value} (h : OneRow w b X v) : ∃ ad cap, v = .slice ad X.length cap := by
  obtain ⟨ad, cap, e, -⟩ := h; exact ⟨ad, cap, e⟩
theorem OneRow.inn {w : World} {b : Nat} {X : List Int} {v : Value} (h : OneRow w b X v) : IIn w X v := by
  obtain ⟨ad, cap, e, l1, l2, h⟩ := h
  refine ⟨ad, cap, e, l1, l2, h.imp id ?_⟩
  rintro ⟨f, rfl, -, hr, hf⟩
  exact ⟨b, 0, rfl, hr.lt, fun i hi => by rw [Nat.zero_add, hr.cell (by omega), hf i hi]⟩
theorem OneRow.nil (w : World) (b : Nat) (ad : Option Addr) (cap : Nat) (h : cap ≤ maxLen) : OneRow w b [] (.slice ad 0 cap) := ⟨ad, cap, rfl, Nat.zero_le _, h, Or.inl rfl⟩
theorem one_of_row {w : World} {lo : Nat} {X : List Int} {v : Value} (h : IntRow w lo X v) (d : Nat) : ∃ b, OneRow w b X v ∧ ((X ≠ [] ∧ lo ≤ b ∧ b < w.heap.size ∧ v.ownBlock = some b) ∨ b = d) := by
  obtain ⟨ad, cap, e, l1, l2, h⟩ := h
  by_cases hx : X = []
  · exact ⟨d, ⟨ad, cap, e, l1, l2, Or.inl hx⟩, Or.inr rfl⟩
  · rcases h with h | ⟨g, f, rfl, hg, hr, hf⟩
    · exact absurd h hx
    · exact ⟨g, ⟨_, cap, e, l1, l2, Or.inr ⟨f, rfl, by simp, hr, hf⟩⟩, Or.inl ⟨hx, hg, hr.lt, by rw [e]; rfl⟩⟩
theorem markOne_calls (X : List Int) (b : Nat) (v : Value) (k : Int) (w : World) (h : OneRow w b X v) (h0 : 0 ≤ k) (h1 : k + (X.length : Int) ≤ 1152921504606846976) :
    Calls Try.prog 16 #[v, .int .i64 k] w fun e w' => e = .returned (.int .i64 (k + (X.length : Int))) ∧ OneRow w' b (upFrom k X.length) v ∧ ButL [b] w w' :=
  (markK_calls X [b] b v k w h h0 h1).mono fun e w' h => ⟨h.1, h.2.1, h.2.2.1⟩

/-- what a call hands back: a graph and numbers, in rows of their own -/
def GIRes (G : List Ce) (X : List Int) (gv tv : Value) (w w' : World) : Prop :=
  ∃ fG bL, GOwn w' fG G gv ∧ (∀ k ∈ fG, w.heap.size ≤ k ∧ k < w'.heap.size) ∧ OneRow w' bL X tv ∧ w.heap.size ≤ bL ∧ bL ∉ fG
theorem GIRes.inn {G : List Ce} {X : List Int} {gv tv : Value} {w w' : World} (h : GIRes G X gv tv w w') : CIn w' G gv ∧ IIn w' X tv := by
  obtain ⟨fG, bL, h1, -, h3, -⟩ := h
  exact ⟨h1.inn, h3.inn⟩
theorem IntRow.shape {w : World} {lo : Nat} {xs : List Int} {v : Value} (h : IntRow w lo xs v) : IShape w (List.range' lo (w.heap.size - lo)) xs.length v := by
  obtain ⟨ad, cap, e, l1, l2, h⟩ := h
  refine ⟨ad, cap, e, l1, l2, ?_⟩
  rcases h with rfl | ⟨b, f, rfl, hb, hr, -⟩
  · exact Or.inl rfl
  · exact Or.inr ⟨b, f, rfl, by rw [List.mem_range'_1]; have := hr.lt; omega, hr⟩
theorem IShape.blocks {fp : List Nat} {w w' : World} {n : Nat} {v : Value} (h : IShape w fp n v) (k : ∀ b ∈ fp, w'.heap[b]? = w.heap[b]?) : IShape w' fp n v := by
  obtain ⟨ad, cap, e, l1, l2, h⟩ := h
  refine ⟨ad, cap, e, l1, l2, h.imp id ?_⟩
  rintro ⟨g, f, rfl, hg, hr⟩
  exact ⟨g, f, rfl, hg, hr.of_block (k g hg)⟩
theorem GIRes.lower {G : List Ce} {X : List Int} {gv tv : Value} {w w1 w' : World} (h : GIRes G X gv tv w1 w') (hl : w.heap.size ≤ w1.heap.size) : GIRes G X gv tv w w' := by
  obtain ⟨fG, bL, h1, h2, h3, h4, h5⟩ := h
  exact ⟨fG, bL, h1, fun k hk => ⟨Nat.le_trans hl (h2 k hk).1, (h2 k hk).2⟩, h3, Nat.le_trans hl h4, h5⟩
end Go.Proofs.Ytiipcgnkfhjpeaa
/-
  THE LAWS' markCell AND heldCell.
-/
namespace Go.Proofs.Ytiipcgnkfhjpeaa
set_option linter.unusedVariables false
set_option linter.unusedSimpArgs false
open Go.RowKit


set_option maxHeartbeats 400000 in
theorem markCell_calls (op num : Int) (X : List Int) (b : Nat) (v : Value) (k : Int) (w : World) (h : OneRow w b X v) (h0 : 0 ≤ k) (h1 : k + (X.length : Int) ≤ 1152921504606846976) :
    Calls Try.prog 27 #[.agg #[.int .i64 op, .int .i64 num, v], .int .i64 k] w fun e w' => e = .returned (.int .i64 (k + (X.length : Int))) ∧ OneRow w' b (upFrom k X.length) v ∧ ButL [b] w w' := by
  have HK := mkHid h
  obtain ⟨ad, cap, rfl⟩ := h.form
  have HBX : Hid (∀ o, Below w.heap.size w (w.alloc o)) := fun o => box_below _ _
  obtain ⟨z, hze⟩ : ∃ z, z = k + (X.length : Int) := ⟨_, rfl⟩
  have HE := mkHid hze
  have HM : Hid (I64 z) := by rw [hze]; unfold Hid I64; omega
  clear hze
  go_enter Try.func27, Try.ntmps27
  go_wp2_with fail
  refine (markOne_calls X b _ k _ (HK.out.next (HBX.out _)) h0 h1).mono ?_
  rintro e w1 ⟨rfl, hk1, hb1⟩
  have HK1 := mkHid hk1
  have HB1 : Hid (ButL [b] w w1) := (ButL.of_below (HBX.out _)).trans hb1
  rw [← HE.out]
  clear hk1 hb1
  go_wp2_with fail
  go_ret
  exact ⟨by rw [HE.out]; rfl, HK1.out, HB1.out⟩
set_option maxHeartbeats 400000 in
theorem heldCell_calls (op num : Int) (n : Nat) (v : Value) (k : Int) (w : World) (hc : IIn w (upFrom k n) v) (h0 : 0 ≤ k) (h1 : k + (n : Int) ≤ 1152921504606846976) :
    Calls Try.prog 28 #[.agg #[.int .i64 op, .int .i64 num, v], .int .i64 k] w fun e w' => e = .returned (.int .i64 (k + (n : Int))) ∧ Below w.heap.size w w' := by
  have HK := mkHid hc
  obtain ⟨ad, cap, rfl, -, -, -⟩ := hc
  have HBX : Hid (∀ o, Below w.heap.size w (w.alloc o)) := fun o => box_below _ _
  obtain ⟨z, hze⟩ : ∃ z, z = k + (n : Int) := ⟨_, rfl⟩
  have HE := mkHid hze
  have hz0 : 0 ≤ z := by omega
  have hz1 : ¬ z < 0 := by omega
  clear hze
  go_enter Try.func28, Try.ntmps28
  go_wp2_with fail
  refine (heldInts_calls n _ k _ (HK.out.next (HBX.out _)) h0 h1).mono ?_
  rintro e w1 ⟨rfl, hb1⟩
  have HB1 : Hid (Below w.heap.size w w1) := (HBX.out _).trans (hb1.mono (HBX.out _).size)
  clear hb1
  rw [← HE.out]
  go_wp2_with fail
  go_ret
  exact ⟨by rw [HE.out]; rfl, HB1.out⟩
end Go.Proofs.Ytiipcgnkfhjpeaa
/-
  A COPY OF A GRAPH, AS ROWS THAT MAY BE MARKED.
-/
namespace Go.Proofs.Ytiipcgnkfhjpeaa
set_option linter.unusedVariables false
set_option linter.unusedSimpArgs false
open Go.RowKit

theorem CellRow.shape {w : World} {lo : Nat} {g : List Ce} {v : Value} (h : CellRow w lo g v) : CShape w (List.range' lo (w.heap.size - lo)) (g.map (·.kids.length)) v := by
  obtain ⟨ad, cap, e, l1, l2, h⟩ := h
  refine ⟨ad, cap, by rw [List.length_map]; exact e, by rw [List.length_map]; exact l1, l2, ?_⟩
  rcases h with rfl | ⟨b, f, rfl, hb, hr, hf⟩
  · exact Or.inl rfl
  · refine Or.inr ⟨b, f, rfl, by rw [List.mem_range'_1]; have := hr.lt; omega, hr, fun i hi => ?_⟩
    rw [List.length_map] at hi
    obtain ⟨-, -, -, -, ad2, cap2, e2, l3, l4, h2⟩ := hf i hi
    refine ⟨ad2, cap2, by rw [e2]; simp, by simpa using l3, l4, ?_⟩
    rcases h2 with h2 | ⟨b2, f2, rfl, hb2, hr2, -⟩
    · left; simp [h2]
    · exact Or.inr ⟨b2, f2, rfl, by rw [List.mem_range'_1]; have := hr2.lt; omega, hr2⟩
end Go.Proofs.Ytiipcgnkfhjpeaa
/-
  THE LAWS' OWN COUNT OF AN ARGUMENT (szExpr, szExprS): what is left of the budget; nothing that was there is changed.
-/
namespace Go.Proofs.Ytiipcgnkfhjpeaa
set_option linter.unusedVariables false
set_option linter.unusedSimpArgs false
open Go.RowKit

end Go.Proofs.Ytiipcgnkfhjpeaa
/-
  THE WALK OF FnExactWordAt.
-/
namespace Go.Proofs.Ytiipcgnkfhjpeaa.lawExactWordAt
open Go.ChangeShapes Go.WideShapes Go.ChangeAt Go.RowKit
set_option linter.unusedVariables false
set_option linter.unusedSimpArgs false

theorem wordO_small (ws : List Int) (x : Int) : (wordO ws x).1.kids.length ≤ 4000 := by
  by_cases h : (unpO ws).2.2 = true ∧ x ∈ (unpO ws).2.1
  · rw [wordO_yes h]
    have h4 := wLen_le (opW ws x.toNat)
    show (cellW ws x.toNat).kids.length ≤ 4000
    cases hn : isNumOp (opW ws x.toNat) with
    | true => rw [cellW_num hn]; simp
    | false => rw [cellW_kid hn, List.length_take]; omega
  · rw [wordO_no h]; simp

set_option maxRecDepth 100000 in
set_option maxHeartbeats 12800000 in
theorem walk (xs0 : List Int) (ca0 : Value) (i0 : Int) (w : World) (hak0 : IIn w xs0 ca0) (hw : ∀ x ∈ xs0, I64 x) (hi0 : I64 i0) :
    Calls Try.prog 6 #[ca0, .int .i64 i0] w fun e w' => e = .returned (.bool true) ∧ Below w.heap.size w w' := by
  have HA0 : Hid (IIn w xs0 ca0) := hak0
  obtain ⟨ada0, capa0, rfl, hal0, ham0, -⟩ := hak0
  unfold maxLen at ham0
  obtain ⟨kop, hkop⟩ : ∃ k : Int, k = (wordO xs0 i0).1.op := ⟨_, rfl⟩
  obtain ⟨knum, hknum⟩ : ∃ k : Int, k = (wordO xs0 i0).1.num := ⟨_, rfl⟩
  obtain ⟨X0, hX0⟩ : ∃ X : List Int, X = (wordO xs0 i0).1.kids := ⟨_, rfl⟩
  obtain ⟨r1, hr1⟩ : ∃ r : Bool, r = (wordO xs0 i0).2 := ⟨_, rfl⟩
  have HXS0 : Hid (X0.length ≤ 4000) := by rw [hX0]; exact wordO_small xs0 i0
  have HSS0 : Hid (xs0.length ≤ 1048576 → ∀ (u : Value) (W : World), IIn W xs0 u → Calls Try.prog 24 #[u, .int .i64 i0] W fun en w' => ∃ v, en = .returned (.tuple #[.agg #[.int .i64 kop, .int .i64 knum, v], .bool r1]) ∧ IIn w' X0 v ∧ Below W.heap.size W w') := fun hl u W h1 => (specWord_calls xs0 i0 u W h1 hw hl).mono fun en w' h => by
    obtain ⟨v, e1, e2, e3⟩ := h
    rw [hX0, hr1, hkop, hknum]
    exact ⟨v, e1, e2.row.inn, e3⟩
  have HSI0 : Hid (xs0.length ≤ 1048576 → ∀ (u : Value) (W : World), IIn W xs0 u → Calls Try.prog 25 #[u, .int .i64 i0] W fun en w' => ∃ v, en = .returned (.tuple #[.agg #[.int .i64 kop, .int .i64 knum, v], .bool r1]) ∧ (∃ b, OneRow w' b X0 v ∧ W.heap.size ≤ b ∧ b ≠ w'.heap.size) ∧ Below W.heap.size W w') := fun hl u W h1 => (implWord_calls xs0 i0 u W h1 hw hl).mono fun en w' h => by
    obtain ⟨v, e1, e2, e3⟩ := h
    obtain ⟨b, e4, e5⟩ := one_of_row e2.row (w'.heap.size + 1)
    rw [hX0, hr1, hkop, hknum]
    exact ⟨v, e1, ⟨b, e4, by have := e3.size; rcases e5 with e5 | e5 <;> omega, by rcases e5 with e5 | e5 <;> omega⟩, e3⟩
  clear hX0 hr1 hkop hknum hw
  go_enter Try.func6, Try.ntmps6
  have HB_w : Hid (Below w.heap.size w w) := Below.refl _ _
  by_cases hlen0 : (1048576 : Int) < (xs0.length : Int)
  · go_wp2_with fail
    go_ret
    exact ⟨rfl, HB_w.out⟩
  have HL0 : Hid (xs0.length ≤ 1048576) := by unfold Hid; omega
  have HSS := mkHid (HSS0.out HL0.out)
  have HSI := mkHid (HSI0.out HL0.out)
  go_wp2_with fail
  -- the model's answer
  refine (toInts_calls xs0 (.slice ada0 xs0.length capa0) w (HA0.out.next HB_w.out) HL0.out).mono ?_
  rintro en w1 ⟨sA0, rfl, hvsA0, hbsA0⟩
  have HXw1 : Hid (Below w.heap.size w w1) := hbsA0
  have HsA0_w1 : Hid (IIn w1 xs0 sA0) := hvsA0.inn
  clear hvsA0 hbsA0
  go_wp2_with fail
  refine (HSS.out sA0 w1 HsA0_w1.out).mono ?_
  rintro en w2 ⟨vs0, rfl, hres, hbr⟩
  have HXw2 : Hid (Below w.heap.size w w2) := HXw1.out.trans (hbr.mono HXw1.out.size)
  have HRs := mkHid hres
  clear hres hbr
  have HB_w2 : Hid (Below w.heap.size w w2) := HB_w.out.trans (HXw2.out.mono HB_w.out.size)
  obtain ⟨adS0, capS0, rfl, -, -, -⟩ := id HRs.out
  obtain ⟨bW, hbW⟩ : ∃ bW, bW = w2.heap.size := ⟨_, rfl⟩
  obtain ⟨w3, hw3⟩ : ∃ W : World, W = w2.alloc (.cells #[.int .i64 kop, .int .i64 knum, .slice adS0 X0.length capS0] 40) := ⟨_, rfl⟩
  have hbx : Below w2.heap.size w2 w3 := by rw [hw3]; exact box_below _ _
  have HBK_bW : Hid (w3.heap[bW]? = some (.cells #[.int .i64 kop, .int .i64 knum, .slice adS0 X0.length capS0] 40)) := by rw [hw3, hbW]; exact Deep.blk_alloc_new _ _
  have HLT_bW : Hid (w3.heap.size = bW + 1) := by rw [hw3, hbW, Hid, Deep.nblk_alloc]
  have HB_w3 : Hid (Below w.heap.size w w3) := HB_w2.out.trans (hbx.mono HB_w2.out.size)
  have BW_w3 := HBK_bW
  have HbbW : Hid (bW < w3.heap.size) := by have := HLT_bW.out; unfold Hid; omega
  have HRs := mkHid (HRs.out.next hbx)
  go_wp2_with fail
  rw [← hw3, ← hbW]
  clear hw3 hbW hbx
  have S0 : Hid (w.heap.size ≤ w3.heap.size) := HB_w3.out.size
  have LE_w3 : Hid (w3.heap.size ≤ w3.heap.size) := Nat.le_refl _
  have W0_w3 : Hid (IntsOn w3 (Lt w3.heap.size) X0 (.slice adS0 X0.length capS0)) := HRs.out
  -- the program's arguments
  go_wp2_with fail
  refine (toInts_calls xs0 (.slice ada0 xs0.length capa0) _ (HA0.out.next HB_w3.out) HL0.out).mono ?_
  rintro en w4 ⟨xA0, rfl, hv, hb⟩
  obtain ⟨fA0, hfA0⟩ : ∃ fA0, fA0 = List.range' w3.heap.size (w4.heap.size - w3.heap.size) := ⟨_, rfl⟩
  have S1 : Hid (w3.heap.size ≤ w4.heap.size) := hb.size
  have HF_fA0 : Hid (True ∧ ∀ k ∈ fA0, w3.heap.size ≤ k ∧ k < w4.heap.size) := ⟨trivial, fun k hk => by rw [hfA0, List.mem_range'_1] at hk; have := S1.out; omega⟩
  have BW_w4 : Hid (w4.heap[bW]? = some (.cells #[.int .i64 kop, .int .i64 knum, .slice adS0 X0.length capS0] 40)) := (hb.block _ (Array.getElem?_eq_some_iff.1 BW_w3.out).1).trans BW_w3.out
  have LE_w4 : Hid (w3.heap.size ≤ w4.heap.size) := Nat.le_trans LE_w3.out hb.size
  have W0_w4 : Hid (IntsOn w4 (Lt w3.heap.size) X0 (.slice adS0 X0.length capS0)) := W0_w3.out.mono (fun _ hk => hk) fun k hk => hb.block k (Nat.lt_of_lt_of_le hk LE_w3.out)
  have HB_w4 : Hid (Below w.heap.size w w4) := HB_w3.out.trans (hb.mono HB_w3.out.size)
  have ZfA0_w4 : Hid (w4.heap.size ≤ w4.heap.size) := Nat.le_refl _
  have XA0_w4 : Hid (IIn w4 xs0 xA0) := hv.inn
  have KA0_w4 : Hid (IShape w4 fA0 xs0.length xA0) := by rw [Hid, hfA0]; exact IntRow.shape hv
  clear hv hb hfA0
  go_wp2_with fail
  -- the program's answer
  refine (HSI.out xA0 _ XA0_w4.out).mono ?_
  rintro en w5 ⟨gL0, rfl, hres, hb⟩
  have SR : Hid (w4.heap.size ≤ w5.heap.size) := hb.size
  obtain ⟨bL0, hil, hbl, hdj⟩ := hres
  have HDJ := mkHid hdj
  have HF_bL0 : Hid (∀ k, k = bL0 → w4.heap.size ≤ k) := fun k hk => by rw [hk]; exact hbl
  have BW_w5 : Hid (w5.heap[bW]? = some (.cells #[.int .i64 kop, .int .i64 knum, .slice adS0 X0.length capS0] 40)) := (hb.block _ (Array.getElem?_eq_some_iff.1 BW_w4.out).1).trans BW_w4.out
  have LE_w5 : Hid (w3.heap.size ≤ w5.heap.size) := Nat.le_trans LE_w4.out hb.size
  have W0_w5 : Hid (IntsOn w5 (Lt w3.heap.size) X0 (.slice adS0 X0.length capS0)) := W0_w4.out.mono (fun _ hk => hk) fun k hk => hb.block k (Nat.lt_of_lt_of_le hk LE_w4.out)
  have ZfA0_w5 : Hid (w4.heap.size ≤ w5.heap.size) := Nat.le_trans ZfA0_w4.out hb.size
  have XA0_w5 : Hid (IIn w5 xs0 xA0) := XA0_w4.out.next hb
  have KA0_w5 : Hid (IShape w5 fA0 xs0.length xA0) := IShape.blocks KA0_w4.out fun b hb9 => hb.block b (Nat.lt_of_lt_of_le (HF_fA0.out.2 b hb9).2 ZfA0_w4.out)
  have HB_w5 : Hid (Below w.heap.size w w5) := HB_w4.out.trans (hb.mono HB_w4.out.size)
  have IO0_w5 : Hid (OneRow w5 bL0 X0 gL0) := hil
  clear hb hil hbl hdj
  obtain ⟨adL0, capL0, rfl⟩ := IO0_w5.out.form
  obtain ⟨bG, hbG⟩ : ∃ bG, bG = w5.heap.size := ⟨_, rfl⟩
  obtain ⟨w6, hw6⟩ : ∃ W : World, W = w5.alloc (.cells #[.int .i64 kop, .int .i64 knum, .slice adL0 X0.length capL0] 40) := ⟨_, rfl⟩
  have hbx : Below w5.heap.size w5 w6 := by rw [hw6]; exact box_below _ _
  have HBK_bG : Hid (w6.heap[bG]? = some (.cells #[.int .i64 kop, .int .i64 knum, .slice adL0 X0.length capL0] 40)) := by rw [hw6, hbG]; exact Deep.blk_alloc_new _ _
  have HLT_bG : Hid (w6.heap.size = bG + 1) := by rw [hw6, hbG, Hid, Deep.nblk_alloc]
  have BW_w6 : Hid (w6.heap[bW]? = some (.cells #[.int .i64 kop, .int .i64 knum, .slice adS0 X0.length capS0] 40)) := (hbx.block _ (Array.getElem?_eq_some_iff.1 BW_w5.out).1).trans BW_w5.out
  have LE_w6 : Hid (w3.heap.size ≤ w6.heap.size) := Nat.le_trans LE_w5.out hbx.size
  have W0_w6 : Hid (IntsOn w6 (Lt w3.heap.size) X0 (.slice adS0 X0.length capS0)) := W0_w5.out.mono (fun _ hk => hk) fun k hk => hbx.block k (Nat.lt_of_lt_of_le hk LE_w5.out)
  have ZfA0_w6 : Hid (w4.heap.size ≤ w6.heap.size) := Nat.le_trans ZfA0_w5.out hbx.size
  have XA0_w6 : Hid (IIn w6 xs0 xA0) := XA0_w5.out.next hbx
  have KA0_w6 : Hid (IShape w6 fA0 xs0.length xA0) := IShape.blocks KA0_w5.out fun b hb9 => hbx.block b (Nat.lt_of_lt_of_le (HF_fA0.out.2 b hb9).2 ZfA0_w5.out)
  have IO0_w6 : Hid (OneRow w6 bL0 X0 (.slice adL0 X0.length capL0)) := OneRow.next IO0_w5.out hbx
  have HB_w6 : Hid (Below w.heap.size w w6) := HB_w5.out.trans (hbx.mono HB_w5.out.size)
  have BG_w6 := HBK_bG
  have HbbG : Hid (w4.heap.size ≤ bG) := by rw [hbG]; exact SR.out
  have HbGne : Hid (bL0 ≠ bG) := by rw [hbG]; exact HDJ.out
  have q0 := old_cell (cell_of_blk BW_w5.out 0 _ rfl) (.cells #[.int .i64 kop, .int .i64 knum, .slice adL0 X0.length capL0] 40); have q1 := old_cell (cell_of_blk BW_w5.out 1 _ rfl) (.cells #[.int .i64 kop, .int .i64 knum, .slice adL0 X0.length capL0] 40); have q2 := old_cell (cell_of_blk BW_w5.out 2 _ rfl) (.cells #[.int .i64 kop, .int .i64 knum, .slice adL0 X0.length capL0] 40)
  go_wp2_with fail
  rw [← hw6, ← hbG]
  clear hw6 hbG hbx
  clear q0 q1 q2
  have t1 : (r1 != r1) = false := by simp
  refine (eqCell_calls kop knum X0 _ _ _ IO0_w6.out.inn (W0_w6.out.mono (fun k hk => Nat.lt_of_lt_of_le hk LE_w6.out) fun _ _ => rfl)).mono ?_
  rintro en w7 ⟨rfl, hb⟩
  have BW_w7 : Hid (w7.heap[bW]? = some (.cells #[.int .i64 kop, .int .i64 knum, .slice adS0 X0.length capS0] 40)) := (hb.block _ (Array.getElem?_eq_some_iff.1 BW_w6.out).1).trans BW_w6.out
  have LE_w7 : Hid (w3.heap.size ≤ w7.heap.size) := Nat.le_trans LE_w6.out hb.size
  have W0_w7 : Hid (IntsOn w7 (Lt w3.heap.size) X0 (.slice adS0 X0.length capS0)) := W0_w6.out.mono (fun _ hk => hk) fun k hk => hb.block k (Nat.lt_of_lt_of_le hk LE_w6.out)
  have ZfA0_w7 : Hid (w4.heap.size ≤ w7.heap.size) := Nat.le_trans ZfA0_w6.out hb.size
  have XA0_w7 : Hid (IIn w7 xs0 xA0) := XA0_w6.out.next hb
  have KA0_w7 : Hid (IShape w7 fA0 xs0.length xA0) := IShape.blocks KA0_w6.out fun b hb9 => hb.block b (Nat.lt_of_lt_of_le (HF_fA0.out.2 b hb9).2 ZfA0_w6.out)
  have IO0_w7 : Hid (OneRow w7 bL0 X0 (.slice adL0 X0.length capL0)) := OneRow.next IO0_w6.out hb
  have BG_w7 : Hid (w7.heap[bG]? = some (.cells #[.int .i64 kop, .int .i64 knum, .slice adL0 X0.length capL0] 40)) := (hb.block _ (Array.getElem?_eq_some_iff.1 BG_w6.out).1).trans BG_w6.out
  have HB_w7 : Hid (Below w.heap.size w w7) := HB_w6.out.trans (hb.mono HB_w6.out.size)
  clear hb
  go_wp2_with fail
  refine (toInts_calls xs0 (.slice ada0 xs0.length capa0) _ (HA0.out.next HB_w7.out) HL0.out).mono ?_
  rintro en w8 ⟨yA0, rfl, hvyA0, hbyA0⟩
  have BW_w8 : Hid (w8.heap[bW]? = some (.cells #[.int .i64 kop, .int .i64 knum, .slice adS0 X0.length capS0] 40)) := (hbyA0.block _ (Array.getElem?_eq_some_iff.1 BW_w7.out).1).trans BW_w7.out
  have LE_w8 : Hid (w3.heap.size ≤ w8.heap.size) := Nat.le_trans LE_w7.out hbyA0.size
  have W0_w8 : Hid (IntsOn w8 (Lt w3.heap.size) X0 (.slice adS0 X0.length capS0)) := W0_w7.out.mono (fun _ hk => hk) fun k hk => hbyA0.block k (Nat.lt_of_lt_of_le hk LE_w7.out)
  have ZfA0_w8 : Hid (w4.heap.size ≤ w8.heap.size) := Nat.le_trans ZfA0_w7.out hbyA0.size
  have XA0_w8 : Hid (IIn w8 xs0 xA0) := XA0_w7.out.next hbyA0
  have KA0_w8 : Hid (IShape w8 fA0 xs0.length xA0) := IShape.blocks KA0_w7.out fun b hb9 => hbyA0.block b (Nat.lt_of_lt_of_le (HF_fA0.out.2 b hb9).2 ZfA0_w7.out)
  have IO0_w8 : Hid (OneRow w8 bL0 X0 (.slice adL0 X0.length capL0)) := OneRow.next IO0_w7.out hbyA0
  have BG_w8 : Hid (w8.heap[bG]? = some (.cells #[.int .i64 kop, .int .i64 knum, .slice adL0 X0.length capL0] 40)) := (hbyA0.block _ (Array.getElem?_eq_some_iff.1 BG_w7.out).1).trans BG_w7.out
  have HB_w8 : Hid (Below w.heap.size w w8) := HB_w7.out.trans (hbyA0.mono HB_w7.out.size)
  have HY : Hid (IIn w8 xs0 yA0) := hvyA0.inn
  clear hvyA0 hbyA0
  go_wp2_with fail
  refine (eqInts_calls xs0 xA0 yA0 _ XA0_w8.out HY.out).mono ?_
  rintro en w9 ⟨rfl, hb⟩
  clear HY
  have BW_w9 : Hid (w9.heap[bW]? = some (.cells #[.int .i64 kop, .int .i64 knum, .slice adS0 X0.length capS0] 40)) := (hb.block _ (Array.getElem?_eq_some_iff.1 BW_w8.out).1).trans BW_w8.out
  have LE_w9 : Hid (w3.heap.size ≤ w9.heap.size) := Nat.le_trans LE_w8.out hb.size
  have W0_w9 : Hid (IntsOn w9 (Lt w3.heap.size) X0 (.slice adS0 X0.length capS0)) := W0_w8.out.mono (fun _ hk => hk) fun k hk => hb.block k (Nat.lt_of_lt_of_le hk LE_w8.out)
  have ZfA0_w9 : Hid (w4.heap.size ≤ w9.heap.size) := Nat.le_trans ZfA0_w8.out hb.size
  have XA0_w9 : Hid (IIn w9 xs0 xA0) := XA0_w8.out.next hb
  have KA0_w9 : Hid (IShape w9 fA0 xs0.length xA0) := IShape.blocks KA0_w8.out fun b hb9 => hb.block b (Nat.lt_of_lt_of_le (HF_fA0.out.2 b hb9).2 ZfA0_w8.out)
  have IO0_w9 : Hid (OneRow w9 bL0 X0 (.slice adL0 X0.length capL0)) := OneRow.next IO0_w8.out hb
  have BG_w9 : Hid (w9.heap[bG]? = some (.cells #[.int .i64 kop, .int .i64 knum, .slice adL0 X0.length capL0] 40)) := (hb.block _ (Array.getElem?_eq_some_iff.1 BG_w8.out).1).trans BG_w8.out
  have HB_w9 : Hid (Below w.heap.size w w9) := HB_w8.out.trans (hb.mono HB_w8.out.size)
  clear hb
  -- the arguments are marked
  go_wp2_with fail
  refine (markI_calls xs0.length fA0 xA0 1 w9 KA0_w9.out (by omega) (by have := HL0.out; omega)).mono ?_
  rintro en w10 ⟨rfl, hk9⟩
  have hb := hk9.but
  clear hk9
  have BW_w10 : Hid (w10.heap[bW]? = some (.cells #[.int .i64 kop, .int .i64 knum, .slice adS0 X0.length capS0] 40)) := (hb.block _ (Array.getElem?_eq_some_iff.1 BW_w9.out).1 (fun h => by have := (HF_fA0.out.2 _ h); have := HbbW.out; have := S0.out; have := S1.out; have := SR.out; omega)).trans BW_w9.out
  have LE_w10 : Hid (w3.heap.size ≤ w10.heap.size) := Nat.le_trans LE_w9.out hb.size
  have W0_w10 : Hid (IntsOn w10 (Lt w3.heap.size) X0 (.slice adS0 X0.length capS0)) := W0_w9.out.mono (fun _ hk => hk) fun k (hk : k < _) => hb.block k (Nat.lt_of_lt_of_le hk LE_w9.out) (fun h => by have := (HF_fA0.out.2 _ h); have := S0.out; have := S1.out; have := SR.out; omega)
  have IO0_w10 : Hid (OneRow w10 bL0 X0 (.slice adL0 X0.length capL0)) := OneRow.keep IO0_w9.out fun b hb9 hz9 => hb.block b hz9 (fun h => by have := (HF_fA0.out.2 _ h); have := (HF_bL0.out b hb9); have := S0.out; have := S1.out; have := SR.out; omega)
  have BG_w10 : Hid (w10.heap[bG]? = some (.cells #[.int .i64 kop, .int .i64 knum, .slice adL0 X0.length capL0] 40)) := (hb.block _ (Array.getElem?_eq_some_iff.1 BG_w9.out).1 (fun h => by have := (HF_fA0.out.2 _ h); have := HbbG.out; have := S0.out; have := S1.out; have := SR.out; omega)).trans BG_w9.out
  have HB_w10 : Hid (Below w.heap.size w w10) := HB_w9.out.trans (hb.below (fun k h => by have := (HF_fA0.out.2 _ h); have := S0.out; have := S1.out; have := SR.out; omega) HB_w9.out.size)
  clear hb
  obtain ⟨kA0, hkA0⟩ : ∃ kA0 : Int, kA0 = 1 + (xs0.length : Int) := ⟨_, rfl⟩
  rw [← hkA0]
  have hkA00 : 0 ≤ kA0 ∧ kA0 ≤ 9437184 := by have := HL0.out; omega
  clear hkA0
  have p0 := cell_of_blk BG_w10.out 0 _ rfl; have p1 := cell_of_blk BG_w10.out 1 _ rfl; have p2 := cell_of_blk BG_w10.out 2 _ rfl; have q0 := cell_of_blk BW_w10.out 0 _ rfl; have q1 := cell_of_blk BW_w10.out 1 _ rfl; have q2 := cell_of_blk BW_w10.out 2 _ rfl
  go_wp2_with fail
  refine (eqCell_calls kop knum X0 _ _ _ IO0_w10.out.inn (W0_w10.out.mono (fun k hk => Nat.lt_of_lt_of_le hk LE_w10.out) fun _ _ => rfl)).mono ?_
  rintro en w11 ⟨rfl, hb⟩
  clear p0 p1 p2 q0 q1 q2
  have BW_w11 : Hid (w11.heap[bW]? = some (.cells #[.int .i64 kop, .int .i64 knum, .slice adS0 X0.length capS0] 40)) := (hb.block _ (Array.getElem?_eq_some_iff.1 BW_w10.out).1).trans BW_w10.out
  have LE_w11 : Hid (w3.heap.size ≤ w11.heap.size) := Nat.le_trans LE_w10.out hb.size
  have W0_w11 : Hid (IntsOn w11 (Lt w3.heap.size) X0 (.slice adS0 X0.length capS0)) := W0_w10.out.mono (fun _ hk => hk) fun k hk => hb.block k (Nat.lt_of_lt_of_le hk LE_w10.out)
  have IO0_w11 : Hid (OneRow w11 bL0 X0 (.slice adL0 X0.length capL0)) := OneRow.next IO0_w10.out hb
  have BG_w11 : Hid (w11.heap[bG]? = some (.cells #[.int .i64 kop, .int .i64 knum, .slice adL0 X0.length capL0] 40)) := (hb.block _ (Array.getElem?_eq_some_iff.1 BG_w10.out).1).trans BG_w10.out
  have HB_w11 : Hid (Below w.heap.size w w11) := HB_w10.out.trans (hb.mono HB_w10.out.size)
  clear hb
  have p0 := cell_of_blk BG_w11.out 0 _ rfl; have p1 := cell_of_blk BG_w11.out 1 _ rfl; have p2 := cell_of_blk BG_w11.out 2 _ rfl
  go_wp2_with fail
  -- the answer is marked
  refine (markCell_calls kop knum X0 bL0 _ 1 w11 IO0_w11.out (by omega) (by have := HXS0.out; omega)).mono ?_
  rintro en w12 ⟨rfl, hk9, hb⟩
  clear p0 p1 p2
  have BW_w12 : Hid (w12.heap[bW]? = some (.cells #[.int .i64 kop, .int .i64 knum, .slice adS0 X0.length capS0] 40)) := (hb.block _ (Array.getElem?_eq_some_iff.1 BW_w11.out).1 (fun h => by have h9 := List.mem_singleton.1 h; have := HF_bL0.out _ h9; have := HbbW.out; have := HbGne.out; have := S0.out; have := S1.out; have := SR.out; omega)).trans BW_w11.out
  have LE_w12 : Hid (w3.heap.size ≤ w12.heap.size) := Nat.le_trans LE_w11.out hb.size
  have W0_w12 : Hid (IntsOn w12 (Lt w3.heap.size) X0 (.slice adS0 X0.length capS0)) := W0_w11.out.mono (fun _ hk => hk) fun k (hk : k < _) => hb.block k (Nat.lt_of_lt_of_le hk LE_w11.out) (fun h => by have := HF_bL0.out k (List.mem_singleton.1 h); have := S0.out; have := S1.out; have := SR.out; omega)
  have BG_w12 : Hid (w12.heap[bG]? = some (.cells #[.int .i64 kop, .int .i64 knum, .slice adL0 X0.length capL0] 40)) := (hb.block _ (Array.getElem?_eq_some_iff.1 BG_w11.out).1 (fun h => by have h9 := List.mem_singleton.1 h; have := HF_bL0.out _ h9; have := HbbG.out; have := HbGne.out; have := S0.out; have := S1.out; have := SR.out; omega)).trans BG_w11.out
  have HB_w12 : Hid (Below w.heap.size w w12) := HB_w11.out.trans (hb.below (fun k h => by have := HF_bL0.out k (List.mem_singleton.1 h); have := S0.out; have := S1.out; have := SR.out; omega) HB_w11.out.size)
  have IL0_w12 : Hid (OneRow w12 bL0 (upFrom 1 X0.length) (.slice adL0 X0.length capL0)) := hk9
  clear hb hk9
  obtain ⟨mL0, hmL0⟩ : ∃ mL0 : Int, mL0 = 1 + (X0.length : Int) := ⟨_, rfl⟩
  have HML0 := mkHid hmL0
  have hmL00 : 0 ≤ mL0 ∧ mL0 ≤ 4001 := by have := HXS0.out; omega
  rw [← hmL0]
  clear hmL0
  have p0 := cell_of_blk BG_w12.out 0 _ rfl; have p1 := cell_of_blk BG_w12.out 1 _ rfl; have p2 := cell_of_blk BG_w12.out 2 _ rfl
  go_wp2_with fail
  refine (heldCell_calls kop knum X0.length _ 1 w12 IL0_w12.out.inn (by omega) (by have := HXS0.out; omega)).mono ?_
  rintro en w13 ⟨rfl, hb⟩
  rw [← HML0.out]
  clear p0 p1 p2
  have BW_w13 : Hid (w13.heap[bW]? = some (.cells #[.int .i64 kop, .int .i64 knum, .slice adS0 X0.length capS0] 40)) := (hb.block _ (Array.getElem?_eq_some_iff.1 BW_w12.out).1).trans BW_w12.out
  have LE_w13 : Hid (w3.heap.size ≤ w13.heap.size) := Nat.le_trans LE_w12.out hb.size
  have W0_w13 : Hid (IntsOn w13 (Lt w3.heap.size) X0 (.slice adS0 X0.length capS0)) := W0_w12.out.mono (fun _ hk => hk) fun k hk => hb.block k (Nat.lt_of_lt_of_le hk LE_w12.out)
  have BG_w13 : Hid (w13.heap[bG]? = some (.cells #[.int .i64 kop, .int .i64 knum, .slice adL0 X0.length capL0] 40)) := (hb.block _ (Array.getElem?_eq_some_iff.1 BG_w12.out).1).trans BG_w12.out
  have IL0_w13 : Hid (OneRow w13 bL0 (upFrom 1 X0.length) (.slice adL0 X0.length capL0)) := OneRow.next IL0_w12.out hb
  have HB_w13 : Hid (Below w.heap.size w w13) := HB_w12.out.trans (hb.mono HB_w12.out.size)
  clear hb
  have tm : (mL0 != mL0) = false := by simp
  go_wp2_with fail
  -- called once more
  refine (toInts_calls xs0 (.slice ada0 xs0.length capa0) w13 (HA0.out.next HB_w13.out) HL0.out).mono ?_
  rintro en w14 ⟨hA0, rfl, hvhA0, hbhA0⟩
  have HXw14 : Hid (Below w13.heap.size w13 w14) := hbhA0
  have HhA0_w14 : Hid (IIn w14 xs0 hA0) := hvhA0.inn
  clear hvhA0 hbhA0
  go_wp2_with fail
  refine (HSI.out hA0 w14 HhA0_w14.out).mono ?_
  rintro en w15 ⟨vh0, rfl, hres, hbr⟩
  have HXw15 : Hid (Below w13.heap.size w13 w15) := HXw14.out.trans (hbr.mono HXw14.out.size)
  have HRh := mkHid hres
  clear hres hbr
  have BW_w15 : Hid (w15.heap[bW]? = some (.cells #[.int .i64 kop, .int .i64 knum, .slice adS0 X0.length capS0] 40)) := (HXw15.out.block _ (Array.getElem?_eq_some_iff.1 BW_w13.out).1).trans BW_w13.out
  have LE_w15 : Hid (w3.heap.size ≤ w15.heap.size) := Nat.le_trans LE_w13.out HXw15.out.size
  have W0_w15 : Hid (IntsOn w15 (Lt w3.heap.size) X0 (.slice adS0 X0.length capS0)) := W0_w13.out.mono (fun _ hk => hk) fun k hk => HXw15.out.block k (Nat.lt_of_lt_of_le hk LE_w13.out)
  have BG_w15 : Hid (w15.heap[bG]? = some (.cells #[.int .i64 kop, .int .i64 knum, .slice adL0 X0.length capL0] 40)) := (HXw15.out.block _ (Array.getElem?_eq_some_iff.1 BG_w13.out).1).trans BG_w13.out
  have IL0_w15 : Hid (OneRow w15 bL0 (upFrom 1 X0.length) (.slice adL0 X0.length capL0)) := OneRow.next IL0_w13.out HXw15.out
  have HB_w15 : Hid (Below w.heap.size w w15) := HB_w13.out.trans (HXw15.out.mono HB_w13.out.size)
  obtain ⟨bH0, hih, -, -⟩ := HRh.out
  have HIH0 := mkHid hih
  clear hih
  obtain ⟨adH0, capH0, rfl⟩ := HIH0.out.form
  obtain ⟨bH, hbH⟩ : ∃ bH, bH = w15.heap.size := ⟨_, rfl⟩
  obtain ⟨w16, hw16⟩ : ∃ W : World, W = w15.alloc (.cells #[.int .i64 kop, .int .i64 knum, .slice adH0 X0.length capH0] 40) := ⟨_, rfl⟩
  have hbx : Below w15.heap.size w15 w16 := by rw [hw16]; exact box_below _ _
  have HBK_bH : Hid (w16.heap[bH]? = some (.cells #[.int .i64 kop, .int .i64 knum, .slice adH0 X0.length capH0] 40)) := by rw [hw16, hbH]; exact Deep.blk_alloc_new _ _
  have HLT_bH : Hid (w16.heap.size = bH + 1) := by rw [hw16, hbH, Hid, Deep.nblk_alloc]
  have HIH0 := mkHid (OneRow.next HIH0.out hbx)
  have BW_w16 : Hid (w16.heap[bW]? = some (.cells #[.int .i64 kop, .int .i64 knum, .slice adS0 X0.length capS0] 40)) := (hbx.block _ (Array.getElem?_eq_some_iff.1 BW_w15.out).1).trans BW_w15.out
  have LE_w16 : Hid (w3.heap.size ≤ w16.heap.size) := Nat.le_trans LE_w15.out hbx.size
  have W0_w16 : Hid (IntsOn w16 (Lt w3.heap.size) X0 (.slice adS0 X0.length capS0)) := W0_w15.out.mono (fun _ hk => hk) fun k hk => hbx.block k (Nat.lt_of_lt_of_le hk LE_w15.out)
  have BG_w16 : Hid (w16.heap[bG]? = some (.cells #[.int .i64 kop, .int .i64 knum, .slice adL0 X0.length capL0] 40)) := (hbx.block _ (Array.getElem?_eq_some_iff.1 BG_w15.out).1).trans BG_w15.out
  have IL0_w16 : Hid (OneRow w16 bL0 (upFrom 1 X0.length) (.slice adL0 X0.length capL0)) := OneRow.next IL0_w15.out hbx
  have HB_w16 : Hid (Below w.heap.size w w16) := HB_w15.out.trans (hbx.mono HB_w15.out.size)
  have BH_w16 := HBK_bH
  have q0 := old_cell (cell_of_blk BW_w15.out 0 _ rfl) (.cells #[.int .i64 kop, .int .i64 knum, .slice adH0 X0.length capH0] 40); have q1 := old_cell (cell_of_blk BW_w15.out 1 _ rfl) (.cells #[.int .i64 kop, .int .i64 knum, .slice adH0 X0.length capH0] 40); have q2 := old_cell (cell_of_blk BW_w15.out 2 _ rfl) (.cells #[.int .i64 kop, .int .i64 knum, .slice adH0 X0.length capH0] 40)
  go_wp2_with fail
  rw [← hw16, ← hbH]
  clear hw16 hbH hbx
  clear q0 q1 q2
  refine (eqCell_calls kop knum X0 _ _ _ HIH0.out.inn (W0_w16.out.mono (fun k hk => Nat.lt_of_lt_of_le hk LE_w16.out) fun _ _ => rfl)).mono ?_
  rintro en w17 ⟨rfl, hb⟩
  have BW_w17 : Hid (w17.heap[bW]? = some (.cells #[.int .i64 kop, .int .i64 knum, .slice adS0 X0.length capS0] 40)) := (hb.block _ (Array.getElem?_eq_some_iff.1 BW_w16.out).1).trans BW_w16.out
  have LE_w17 : Hid (w3.heap.size ≤ w17.heap.size) := Nat.le_trans LE_w16.out hb.size
  have W0_w17 : Hid (IntsOn w17 (Lt w3.heap.size) X0 (.slice adS0 X0.length capS0)) := W0_w16.out.mono (fun _ hk => hk) fun k hk => hb.block k (Nat.lt_of_lt_of_le hk LE_w16.out)
  have BG_w17 : Hid (w17.heap[bG]? = some (.cells #[.int .i64 kop, .int .i64 knum, .slice adL0 X0.length capL0] 40)) := (hb.block _ (Array.getElem?_eq_some_iff.1 BG_w16.out).1).trans BG_w16.out
  have IL0_w17 : Hid (OneRow w17 bL0 (upFrom 1 X0.length) (.slice adL0 X0.length capL0)) := OneRow.next IL0_w16.out hb
  have BH_w17 : Hid (w17.heap[bH]? = some (.cells #[.int .i64 kop, .int .i64 knum, .slice adH0 X0.length capH0] 40)) := (hb.block _ (Array.getElem?_eq_some_iff.1 BH_w16.out).1).trans BH_w16.out
  have HB_w17 : Hid (Below w.heap.size w w17) := HB_w16.out.trans (hb.mono HB_w16.out.size)
  clear hb
  have p0 := cell_of_blk BG_w17.out 0 _ rfl; have p1 := cell_of_blk BG_w17.out 1 _ rfl; have p2 := cell_of_blk BG_w17.out 2 _ rfl
  go_wp2_with fail
  refine (heldCell_calls kop knum X0.length _ 1 w17 IL0_w17.out.inn (by omega) (by have := HXS0.out; omega)).mono ?_
  rintro en w18 ⟨rfl, hb⟩
  rw [← HML0.out]
  clear p0 p1 p2
  have BG_w18 : Hid (w18.heap[bG]? = some (.cells #[.int .i64 kop, .int .i64 knum, .slice adL0 X0.length capL0] 40)) := (hb.block _ (Array.getElem?_eq_some_iff.1 BG_w17.out).1).trans BG_w17.out
  have IL0_w18 : Hid (OneRow w18 bL0 (upFrom 1 X0.length) (.slice adL0 X0.length capL0)) := OneRow.next IL0_w17.out hb
  have HB_w18 : Hid (Below w.heap.size w w18) := HB_w17.out.trans (hb.mono HB_w17.out.size)
  clear hb
  go_wp2_with fail
  go_ret
  exact ⟨rfl, HB_w18.out⟩
end Go.Proofs.Ytiipcgnkfhjpeaa.lawExactWordAt
