/-
  THE PROGRAM's unpack, UnpackWords, AddressesOf.
-/
import Derived.Test.YtiipcgnkfhjpeaaMgExactAddressesOf5
import Derived.Test.YtiipcgnkfhjpeaaMgExactAddressesOf4
import Derived.Test.YtiipcgnkfhjpeaaMgExactAddressesOf3
import Derived.Test.YtiipcgnkfhjpeaaMgExactAddressesOf2
import Derived.Test.YtiipcgnkfhjpeaaMgExactAddressesOf1
import Derived.Test.YtiipcgnkfhjpeaaProg
import Derived.Deep.RegionHeld3
namespace Go.Proofs.Ytiipcgnkfhjpeaa
set_option linter.unusedVariables false
set_option linter.unusedSimpArgs false
open Go.RowKit


theorem oc_formI {w : World} {lo : Nat} {S : Nat → Prop} {g : List Ce} {v : Value} (h : OwnC w lo S g v) : ∃ ad n cap, v = .slice ad n cap := by obtain ⟨ad, cap, e⟩ := h.form; exact ⟨ad, _, cap, e⟩
theorem cellW_64I {ws : List Int} {a : Nat} (hw : ∀ x ∈ ws, I64 x) (ha : a < ws.length) (h : WholeAt ws a) : I64 (cellW ws a).op ∧ I64 (cellW ws a).num := by
  have h2 := wLen_pos h.1
  have h3 := h.2
  refine ⟨by rw [cellW_op, opW_at ha]; exact hw _ (List.getElem_mem ha), ?_⟩
  cases h : isNumOp (opW ws a) with
  | true => rw [cellW_num h]; show I64 (opW ws (a + 1)); rw [opW_at (by omega)]; exact hw _ (List.getElem_mem _)
  | false => rw [cellW_kid h]; unfold I64; simp
theorem ow_low {w : World} {lo lo' : Nat} {g : List Ce} {v : Value} (h : OwnC w lo (fun b => lo ≤ b) g v) (hl : lo' ≤ lo) : OwnC w lo' (fun b => lo' ≤ b) g v := by
  obtain ⟨hi0, xs, kb, h1, h2, h3⟩ := h
  refine ⟨hi0, xs, kb, ⟨h1.1, ?_⟩, fun j hj => ?_, h3⟩
  · rcases h1.2 with h | ⟨g, cap, cur, rfl, hg, r⟩
    · exact Or.inl h
    · exact Or.inr ⟨g, cap, cur, rfl, Nat.le_trans hl hg, r⟩
  · obtain ⟨kv, e0, e1, e2, e3⟩ := h2 j hj
    exact ⟨kv, e0, e1, e2, e3.keep (fun k hk _ => Nat.le_trans hl hk) fun _ _ _ _ => rfl⟩
theorem plcB_all {st xs : List Int} (h : plcB st xs = false) : ∃ x ∈ xs, idxI st x = -1 := by
  unfold plcB at h
  rw [List.all_eq_false] at h
  obtain ⟨x, hx, h1⟩ := h
  refine ⟨x, hx, ?_⟩
  have := (idxI_bound st x).1
  simp at h1
  omega
/-- a graph in rows of its own and addresses, and whether there are any -/
def OwnUnp (r : List Ce × List Int × Bool) (w : World) (e : Ending) (w' : World) : Prop := ∃ gv t, e = .returned (.tuple #[gv, t, .bool r.2.2]) ∧ OwnC w' w.heap.size (fun b => w.heap.size ≤ b) r.1 gv ∧ IntRow w' w.heap.size r.2.1 t ∧ Below w.heap.size w w'
set_option maxRecDepth 100000 in
set_option maxHeartbeats 1600000 in
theorem unpack_calls (ws : List Int) (v : Value) (w : World) (hk : IIn w ws v) (hw : ∀ x ∈ ws, I64 x) (hl : ws.length ≤ 1048576) :
    Calls Try.prog 41 #[v] w (OwnUnp (unpO ws) w) := by
  have HK := mkHid hk
  have HW := mkHid hw
  obtain ⟨ad, cap, rfl, hlc, hm, -⟩ := hk
  unfold maxLen at hm
  clear hw
  go_enter Try.func41, Try.ntmps41
  have HNIL : Hid (∀ w', Below w.heap.size w w' → unpO ws = ([], [], false) → OwnUnp (unpO ws) w (.returned (.tuple #[.slice none 0 0, .slice none 0 0, .bool false])) w') := fun w' hb h => by
    rw [h]; exact ⟨_, _, rfl, OwnC.nil _ _ _, IntRow.none _ _, hb⟩
  by_cases hbig : ws.length ≤ 1600
  case neg =>
    have HV := mkHid (unpO_long hbig)
    have hb' : (1600 : Int) < (ws.length : Int) := by omega
    clear hbig
    go_wp2_with fail
    refine bodyPost_ret (v := .tuple #[.slice none 0 0, .slice none 0 0, .bool false]) (by simp [results, Try.results41, go_sem]) rfl ?_
    exact HNIL.out _ (Below.refl _ _) HV.out
  go_wp2_with fail
  refine (startsOf_calls ws _ w HK.out hl).mono ?_
  rintro e w2 ⟨sv, rfl, hsv, hb2⟩
  have HB2 := mkHid hb2
  have HSV := mkHid hsv
  clear hsv hb2
  obtain ⟨bs, hbs⟩ : ∃ bs, bs = (startsW ws 0).isSome := ⟨_, rfl⟩
  rw [← hbs]
  cases hst : startsW ws 0 with
  | none =>
    have HV := mkHid (unpO_none hst)
    obtain rfl : bs = false := by rw [hbs, hst]; rfl
    clear hst hbs
    go_wp2_with fail
    refine bodyPost_ret (v := .tuple #[.slice none 0 0, .slice none 0 0, .bool false]) (by simp [results, Try.results41, go_sem]) rfl ?_
    exact HNIL.out _ HB2.out HV.out
  | some st =>
    rw [hst] at HSV
    obtain rfl : bs = true := by rw [hbs, hst]; rfl
    clear hbs
    have HST := mkHid hst
    have HSO := mkHid (starts_sorted hst)
    have hsm := starts_small hst
    have HSC : Hid (∀ x ∈ st, CellAt ws x) := fun x hx => starts_cell HST.out hx
    clear hst
    have HSR : Hid (IntRow w2 w.heap.size st sv) := (show StkI w2 w.heap.size st sv from HSV.out).row
    have HSI : Hid (IIn w2 st sv) := HSR.out.inn
    obtain ⟨ads, caps, rfl, -, -, -⟩ := id HSI.out
    obtain ⟨iC, zC, hII⟩ := infoC1
    have HII := mkHid hII
    clear hII
    go_wp2_with fail
    go_loopw [7, 25] (fun o i wr => ∃ j : Nat, j ≤ st.length ∧ i = .int .i64 j ∧ OwnC wr w2.heap.size (fun b => w2.heap.size ≤ b ∧ b < wr.heap.size) (graphTo ws st j) o ∧ Below w2.heap.size w2 wr) (fun _ i _ => st.length - (intOf i).toNat)
    case atStart => exact ⟨0, Nat.zero_le _, rfl, by rw [graphTo_zero]; exact OwnC.nil _ _ _, Below.refl _ _⟩
    case round =>
      obtain ⟨j, hj, rfl, hown, hb⟩ := hrel
      obtain ⟨wo, rfl⟩ : ∃ wo : World, wo = wr := ⟨_, rfl⟩
      obtain ⟨ado, capo, rfl⟩ := hown.form
      rw [graphTo_len hj] at hown ⊢
      have HO := mkHid hown
      have HB := mkHid hb
      by_cases hlt : j < st.length
      · obtain ⟨b0, o0, rfl, d0w⟩ := HSI.out.at j hlt
        obtain ⟨a, hae, ha, hc, he⟩ := HSC.out _ (List.getElem_mem hlt)
        rw [hae] at d0w
        have d0 := (hb.cell (p := ⟨b0, o0 + j, none⟩) (cell_lt d0w)).trans d0w
        have HSN := mkHid (graphTo_snoc (ws := ws) hlt hae)
        have HMISS : Hid (∀ x ∈ (cellW ws a).kids, idxI st x = -1 → graphB (graphW ws st) 6 = false) := fun x hx hi => graph_miss hlt hae hx hi
        rw [← opW_at ha] at hc he
        have HWA : Hid (WholeAt ws a) := ⟨hc, he⟩
        have H64 := mkHid (cellW_64I HW.out ha HWA.out)
        obtain ⟨bl, off, rfl, -⟩ := HK.out.at a ha
        have HKW : Hid (∀ W, Below w2.heap.size w2 W → IIn W ws (.slice (some ⟨bl, off, none⟩) ws.length cap)) := fun W hW => HK.out.next (HB2.out.trans (hW.mono HB2.out.size))
        clear hown hb d0w hae hc he
        go_wp2_with fail
        refine (wordsAt_yes ws a bl off cap wo (HKW.out wo HB.out) ha HWA.out hl).mono ?_
        rintro e w5 ⟨rfl, hb5⟩
        have HB5 : Hid (Below wo.heap.size wo w5) := hb5
        obtain ⟨n, hn⟩ : ∃ n : Nat, n = wLen (opW ws a) := ⟨_, rfl⟩
        rw [← hn]
        have HCI : Hid (∀ W, Below w2.heap.size w2 W → CellIn ws a n bl (off + a) (cap - a) W) := fun W hW => by
          have h2 := wLen_pos HWA.out.1
          have h3 := HWA.out.2
          rw [← hn] at h2 h3
          refine ⟨hn, h2, by omega, by omega, fun q hq => ?_, h3⟩
          obtain ⟨b9, o9, e9, d9⟩ := (HKW.out W hW).at (a + q) (by omega)
          simp only [Option.some.injEq, Addr.mk.injEq, and_true] at e9
          obtain ⟨rfl, rfl⟩ := e9
          rw [opW_at (by omega), Nat.add_assoc]
          exact d9
        clear hb5 hn d0 ha
        go_wp2_with fail
        refine (cellOf_calls ws a n bl (off + a) (cap - a) w5 (HCI.out w5 (HB.out.trans (HB5.out.mono HB.out.size))) hl).mono ?_
        rintro e w6 ⟨kv, rfl, hkv, hb6⟩
        obtain ⟨c, hcw⟩ : ∃ c, c = cellW ws a := ⟨_, rfl⟩
        have HKL : Hid (c.kids.length ≤ 3) := by
          rw [hcw, Hid]
          have h4 := wLen_le (opW ws a)
          cases hnum : isNumOp (opW ws a) with
          | true => rw [cellW_num hnum]; simp
          | false => rw [cellW_kid hnum, List.length_take]; omega
        rw [← hcw] at HSN H64 hkv HMISS ⊢
        obtain ⟨adk, nk, capk, rfl⟩ := hkv.form
        have HKV := mkHid hkv
        have HB6 : Hid (Below wo.heap.size wo w6) := HB5.out.trans (hb6.mono HB5.out.size)
        clear hcw hkv hb6
        obtain ⟨w7, hw7⟩ : ∃ w7 : World, w7 = w6.alloc (.cells #[.int .i64 c.op, .int .i64 c.num, .slice adk nk capk] 40) := ⟨_, rfl⟩
        have HX7 : Hid (w7.heap[w6.heap.size]? = some (.cells #[.int .i64 c.op, .int .i64 c.num, .slice adk nk capk] 40)) := by rw [hw7]; exact Deep.blk_alloc_new _ _
        have HB7 : Hid (Below wo.heap.size wo w7) := by rw [hw7]; exact HB6.out.alloc HB6.out.size _
        have HK7 : Hid (IIn w7 c.kids (.slice adk nk capk)) := by rw [hw7]; exact (StkI.alloc HKV.out _).row.inn
        have HS7 : Hid (IIn w7 st (.slice (some ⟨b0, o0, none⟩) st.length caps)) := HSI.out.next (HB.out.trans (HB7.out.mono HB.out.size))
        go_wp2_with fail
        rw [← hw7]
        clear hw7
        have x2 := cell_of_blk HX7.out 2 _ rfl
        go_wp2_with fail
        refine (placesIn_calls st c.kids _ _ w7 HS7.out HK7.out HSO.out (by omega) (by have := HKL.out; omega)).mono ?_
        rintro e w8 ⟨tv, rfl, htv, hb8⟩
        have HX8 := mkHid ((hb8.block _ (Array.getElem?_eq_some_iff.1 HX7.out).1).trans HX7.out)
        have HB8 : Hid (Below wo.heap.size wo w8) := HB7.out.trans (hb8.mono HB7.out.size)
        have HT8 := mkHid htv
        have HL8 : Hid (w6.heap.size < w7.heap.size) := (Array.getElem?_eq_some_iff.1 HX7.out).1
        obtain ⟨adt, nt, capt, rfl⟩ := htv.form
        have y2 := cell_of_blk HX8.out 2 _ rfl
        have fy := frz_of_blk HX8.out
        clear htv hb8 x2
        cases hp : plcB st c.kids with
        | false =>
          obtain ⟨x, hx, hxi⟩ := plcB_all hp
          have HV := mkHid (unpO_bad HST.out (HMISS.out x hx hxi))
          clear hp hx hxi
          go_wp2_with fail
          refine bodyPost_ret (v := .tuple #[.slice none 0 0, .slice none 0 0, .bool false]) (by simp [results, Try.results41, go_sem]) rfl ?_
          exact HNIL.out _ ((HB2.out.trans (HB.out.mono HB2.out.size)).trans ((HB8.out.mono (Nat.le_trans HB2.out.size HB.out.size)).setCell (by show _ ≤ w6.heap.size; exact Nat.le_trans (Nat.le_trans HB2.out.size HB.out.size) HB6.out.size) _)) HV.out
        | true =>
          have HT9 : Hid (StkI w8 w7.heap.size (cellP st c).kids (.slice adt nt capt)) := by
            have h := HT8.out
            rw [plcL_yes hp] at h
            exact h
          clear hp
          obtain ⟨wq, hwq⟩ : ∃ wq : World, wq = w8.setCell ⟨w6.heap.size, 2, none⟩ (.slice adt nt capt) := ⟨_, rfl⟩
          have HXQ : Hid (wq.heap[w6.heap.size]? = some (.cells #[.int .i64 c.op, .int .i64 c.num, .slice adt nt capt] 40)) := by rw [hwq]; exact c2_blk HX8.out
          have HBQ : Hid (Below wo.heap.size wo wq) := by rw [hwq]; exact HB8.out.setCell HB6.out.size _
          have HKA : Hid (StkI wq wo.heap.size (cellP st c).kids (.slice adt nt capt)) := by
            rw [hwq]
            exact (HT9.out.keep fun k hk _ => Below.heap_setCell _ _ _ _ (by show k ≠ w6.heap.size; have := HL8.out; omega)).lower HB7.out.size
          have q0 := cell_of_blk HXQ.out 0 _ rfl
          have q1 := cell_of_blk HXQ.out 1 _ rfl
          have q2 := cell_of_blk HXQ.out 2 _ rfl
          rw [hwq] at q0 q1 q2
          have HOA : Hid (OwnC (wq.alloc (.cells #[.int .i64 c.op, .int .i64 c.num, .slice adt nt capt] 40)) w2.heap.size (fun b => w2.heap.size ≤ b ∧ b < wo.heap.size) (graphTo ws st j) (.slice ado j capo)) := (HO.out.keepB HBQ.out).next (fun _ h _ => h) (fun b _ hb => Deep.blk_alloc_lt _ _ _ hb) (fun b _ hb => Deep.blk_alloc_lt _ _ _ hb)
          obtain ⟨xs, hx⟩ := HOA.out.row
          rw [graphTo_len hj] at hx
          have HX := mkHid hx
          have hj9 : j ≤ 800 := by omega
          have HSZ : Hid (w2.heap.size ≤ wo.heap.size ∧ wo.heap.size ≤ wq.heap.size) := ⟨HB.out.size, HBQ.out.size⟩
          have HNW : Hid (∀ (k : Nat) (u : Value), [.int .i64 c.op, .int .i64 c.num, .slice adt nt capt][k]? = some u → (wq.alloc (.cells #[.int .i64 c.op, .int .i64 c.num, .slice adt nt capt] 40)).cell? ((⟨w8.heap.size, 0, none⟩ : Addr).add k) = some u) := fun k u hu => by
            have h := news3c wq (.int .i64 c.op) (.int .i64 c.num) (.slice adt nt capt) k u hu
            have e : wq.heap.size = w8.heap.size := by rw [hwq, size_setCell]
            rw [e] at h
            exact h
          clear hx
          subst hwq
          go_wp2_with (at_builtin; go_must (refine wpList_append_where _ rfl _ _ 27 rfl w2.heap.size 40 iC zC 3 40 Try.underlying27 HII.out.1 HII.out.2.1 HII.out.2.2.1 HII.out.2.2.2.1 HII.out.2.2.2.2 (by decide) (.slice ado j capo) j xs rfl HX.out ⟨w8.heap.size, 0, none⟩ 1 1 [.int .i64 c.op, .int .i64 c.num, .slice adt nt capt] rfl rfl HNW.out (by simp [Value.oneCell']) (by unfold maxLen; omega) (by omega) (by rw [Deep.nblk_alloc]; have := HSZ.out; omega) (by omega) ?_); go_must (intro v' w9 hown hg5 hw5); go_must (have HB9 : Hid (Below w2.heap.size w2 w9) := below_grown ((HB.out.trans (HBQ.out.mono HB.out.size)).alloc (by have := HSZ.out; omega) _) hg5 (fun k hk => own_lo HX.out hk.symm)); go_must (have HO9 : Hid (OwnC w9 w2.heap.size (fun b => w2.heap.size ≤ b ∧ b < w9.heap.size) (graphTo ws st (j + 1)) v') := by rw [HSN.out]; exact OwnC.push (c := cellP st c) HOA.out (StkI.alloc HKA.out _) HSZ.out.1 (by rw [Deep.nblk_alloc]; have := HSZ.out; omega) H64.out (by rw [graphTo_len hj]; exact HX.out) (by rw [graphTo_len hj]; exact hown) hg5); go_must (obtain ⟨ad9, n9, cap9, rfl⟩ := oc_formI HO9.out); clear hown hg5 hw5 q0 q1 q2 y2 fy)
          go_roundw
          case rel => first | exact ⟨j + 1, by omega, by go_num, HO9.out, HB9.out⟩ | ((repeat apply Exists.intro); exact ⟨⟨j + 1, by omega, by go_num, HO9.out, HB9.out⟩, rfl⟩)
          case measure => simp [intOf]; omega
      · have hje : j = st.length := by omega
        have HOG : Hid (OwnC wo w2.heap.size (fun b => w2.heap.size ≤ b ∧ b < wo.heap.size) (graphW ws st) (.slice ado j capo)) := by
          have h := HO.out
          rw [hje, graphTo_all] at h
          rw [hje]; exact h
        have HCI : Hid (CIn wo (graphW ws st) (.slice ado j capo)) := HOG.out.inn fun k h _ => h.1
        have HBW : Hid (Below w.heap.size w wo) := HB2.out.trans (HB.out.mono HB2.out.size)
        have HS9 : Hid (IntRow wo w.heap.size st (.slice ads st.length caps)) := HSR.out.next HB.out
        clear hown hb hje
        go_wp2_with fail
        refine (implGraph_calls (graphW ws st) 6 _ _ HCI.out).mono ?_
        rintro e w7 ⟨rfl, hb7⟩
        have HB7 : Hid (Below w.heap.size w w7) := HBW.out.trans (hb7.mono HBW.out.size)
        have HC7 : Hid (OwnC w7 w.heap.size (fun b => w.heap.size ≤ b) (graphW ws st) (.slice ado j capo)) := ow_low ((HOG.out.keepB hb7).next (S' := fun b => w2.heap.size ≤ b) (fun _ h _ => h.1) (fun _ _ _ => rfl) (fun _ _ _ => rfl)) HB2.out.size
        have HS7 := mkHid (HS9.out.next hb7)
        clear hb7
        cases hg : graphB (graphW ws st) 6 with
        | false =>
          have HV := mkHid (unpO_bad HST.out hg)
          clear hg
          go_wp2_with fail
          refine bodyPost_ret (v := .tuple #[.slice none 0 0, .slice none 0 0, .bool false]) (by simp [results, Try.results41, go_sem]) rfl ?_
          exact HNIL.out _ HB7.out HV.out
        | true =>
          have HV := mkHid (unpO_yes hbig HST.out hg)
          clear hg
          go_wp2_with fail
          refine bodyPost_ret (v := .tuple #[.slice ado j capo, .slice ads st.length caps, .bool true]) (by simp [results, Try.results41, go_sem]) rfl ?_
          rw [HV.out]
          exact ⟨_, _, rfl, HC7.out, HS7.out, HB7.out⟩

set_option maxHeartbeats 400000 in
theorem implAddr_calls (ws : List Int) (v : Value) (w : World) (hk : IIn w ws v) (hw : ∀ x ∈ ws, I64 x) (hl : ws.length ≤ 1048576) :
    Calls Try.prog 30 #[v] w fun e w' => ∃ t, e = .returned (.tuple #[t, .bool (unpO ws).2.2]) ∧ IntRow w' w.heap.size (unpO ws).2.1 t ∧ Below w.heap.size w w' := by
  have HK := mkHid hk
  obtain ⟨ad, cap, rfl, -, -, -⟩ := hk
  obtain ⟨r, hr⟩ : ∃ r, r = unpO ws := ⟨_, rfl⟩
  have HR := mkHid hr
  rw [← hr]
  clear hr
  go_enter Try.func30, Try.ntmps30
  go_wp2_with fail
  refine (unpack_calls ws _ w HK.out hw hl).mono ?_
  rw [← HR.out]
  rintro e w1 ⟨gv, t, rfl, h1, h2, h3⟩
  have H1 := mkHid (And.intro h2 h3)
  clear h1 h2 h3
  go_wp2_with fail
  refine bodyPost_ret (v := .tuple #[t, .bool r.2.2]) (by simp [results, Try.results30, go_sem]) rfl ?_
  exact ⟨_, rfl, H1.out.1, H1.out.2⟩
end Go.Proofs.Ytiipcgnkfhjpeaa
/-
  ONE ROW OF NUMBERS OF ITS OWN; a graph that keeps its rows while it is marked.
-/
namespace Go.Proofs.Ytiipcgnkfhjpeaa
set_option linter.unusedVariables false
set_option linter.unusedSimpArgs false
open Go.RowKit

/-- numbers in the row b -/
def OneRow (w : World) (b : Nat) (X : List Int) (v : Value) : Prop := KRow w [b] X b v
theorem OneRow.keep {w w' : World} {b : Nat} {X : List Int} {v : Value} (h : OneRow w b X v) (hb : ∀ k, k = b → k < w.heap.size → w'.heap[k]? = w.heap[k]?) : OneRow w' b X v := by
  unfold OneRow at h ⊢
  refine h.keep (fun _ h => h) fun hx hm => ?_
  obtain ⟨_, _, _, _, _, h5⟩ := h
  rcases h5 with h5 | ⟨f5, -, -, h6, -⟩
  · exact absurd h5 hx
  · exact hb _ rfl h6.lt
theorem OneRow.next {w w' : World} {b : Nat} {X : List Int} {v : Value} (h : OneRow w b X v) (hb : Below w.heap.size w w') : OneRow w' b X v := h.keep fun k _ hk => hb.block k hk
theorem OneRow.form {w : World} {b : Nat} {X : List Int} {v : Value} (h : OneRow w b X v) : ∃ ad cap, v = .slice ad X.length cap := by
  obtain ⟨ad, cap, e, -⟩ := h; exact ⟨ad, cap, e⟩
theorem OneRow.inn {w : World} {b : Nat} {X : List Int} {v : Value} (h : OneRow w b X v) : IIn w X v := by
  obtain ⟨ad, cap, e, l1, l2, h⟩ := h
  refine ⟨ad, cap, e, l1, l2, h.imp id ?_⟩
  rintro ⟨f, rfl, -, hr, hf⟩
  exact ⟨b, 0, rfl, hr.lt, fun i hi => by rw [Nat.zero_add, hr.cell (by omega), hf i hi]⟩
theorem OneRow.nil (w : World) (b : Nat) (ad : Option Addr) (cap : Nat) (h : cap ≤ maxLen) : OneRow w b [] (.slice ad 0 cap) := ⟨ad, cap, rfl, Nat.zero_le _, h, Or.inl rfl⟩
theorem one_of_row {w : World} {lo : Nat} {X : List Int} {v : Value} (h : IntRow w lo X v) (d : Nat) : ∃ b, OneRow w b X v ∧ ((X ≠ [] ∧ lo ≤ b ∧ b < w.heap.size ∧ v.ownBlock = some b) ∨ b = d) := by
  obtain ⟨ad, cap, e, l1, l2, h⟩ := h
  by_cases hx : X = []
  · exact ⟨d, ⟨ad, cap, e, l1, l2, Or.inl hx⟩, Or.inr rfl⟩
  · rcases h with h | ⟨g, f, rfl, hg, hr, hf⟩
    · exact absurd h hx
    · exact ⟨g, ⟨_, cap, e, l1, l2, Or.inr ⟨f, rfl, by simp, hr, hf⟩⟩, Or.inl ⟨hx, hg, hr.lt, by rw [e]; rfl⟩⟩
theorem markOne_calls (X : List Int) (b : Nat) (v : Value) (k : Int) (w : World) (h : OneRow w b X v) (h0 : 0 ≤ k) (h1 : k + (X.length : Int) ≤ 1152921504606846976) :
    Calls Try.prog 16 #[v, .int .i64 k] w fun e w' => e = .returned (.int .i64 (k + (X.length : Int))) ∧ OneRow w' b (upFrom k X.length) v ∧ ButL [b] w w' :=
  (markK_calls X [b] b v k w h h0 h1).mono fun e w' h => ⟨h.1, h.2.1, h.2.2.1⟩

/-- what a call hands back: a graph and numbers, in rows of their own -/
def GIRes (G : List Ce) (X : List Int) (gv tv : Value) (w w' : World) : Prop :=
  ∃ fG bL, GOwn w' fG G gv ∧ (∀ k ∈ fG, w.heap.size ≤ k ∧ k < w'.heap.size) ∧ OneRow w' bL X tv ∧ w.heap.size ≤ bL ∧ bL ∉ fG
theorem GIRes.inn {G : List Ce} {X : List Int} {gv tv : Value} {w w' : World} (h : GIRes G X gv tv w w') : CIn w' G gv ∧ IIn w' X tv := by
  obtain ⟨fG, bL, h1, -, h3, -⟩ := h
  exact ⟨h1.inn, h3.inn⟩
theorem IntRow.shape {w : World} {lo : Nat} {xs : List Int} {v : Value} (h : IntRow w lo xs v) : IShape w (List.range' lo (w.heap.size - lo)) xs.length v := by
  obtain ⟨ad, cap, e, l1, l2, h⟩ := h
  refine ⟨ad, cap, e, l1, l2, ?_⟩
  rcases h with rfl | ⟨b, f, rfl, hb, hr, -⟩
  · exact Or.inl rfl
  · exact Or.inr ⟨b, f, rfl, by rw [List.mem_range'_1]; have := hr.lt; omega, hr⟩
theorem IShape.blocks {fp : List Nat} {w w' : World} {n : Nat} {v : Value} (h : IShape w fp n v) (k : ∀ b ∈ fp, w'.heap[b]? = w.heap[b]?) : IShape w' fp n v := by
  obtain ⟨ad, cap, e, l1, l2, h⟩ := h
  refine ⟨ad, cap, e, l1, l2, h.imp id ?_⟩
  rintro ⟨g, f, rfl, hg, hr⟩
  exact ⟨g, f, rfl, hg, hr.of_block (k g hg)⟩
theorem GIRes.lower {G : List Ce} {X : List Int} {gv tv : Value} {w w1 w' : World} (h : GIRes G X gv tv w1 w') (hl : w.heap.size ≤ w1.heap.size) : GIRes G X gv tv w w' := by
  obtain ⟨fG, bL, h1, h2, h3, h4, h5⟩ := h
  exact ⟨fG, bL, h1, fun k hk => ⟨Nat.le_trans hl (h2 k hk).1, (h2 k hk).2⟩, h3, Nat.le_trans hl h4, h5⟩
end Go.Proofs.Ytiipcgnkfhjpeaa
/-
  A COPY OF A GRAPH, AS ROWS THAT MAY BE MARKED.
-/
namespace Go.Proofs.Ytiipcgnkfhjpeaa
set_option linter.unusedVariables false
set_option linter.unusedSimpArgs false
open Go.RowKit

theorem CellRow.shape {w : World} {lo : Nat} {g : List Ce} {v : Value} (h : CellRow w lo g v) : CShape w (List.range' lo (w.heap.size - lo)) (g.map (·.kids.length)) v := by
  obtain ⟨ad, cap, e, l1, l2, h⟩ := h
  refine ⟨ad, cap, by rw [List.length_map]; exact e, by rw [List.length_map]; exact l1, l2, ?_⟩
  rcases h with rfl | ⟨b, f, rfl, hb, hr, hf⟩
  · exact Or.inl rfl
  · refine Or.inr ⟨b, f, rfl, by rw [List.mem_range'_1]; have := hr.lt; omega, hr, fun i hi => ?_⟩
    rw [List.length_map] at hi
    obtain ⟨-, -, -, -, ad2, cap2, e2, l3, l4, h2⟩ := hf i hi
    refine ⟨ad2, cap2, by rw [e2]; simp, by simpa using l3, l4, ?_⟩
    rcases h2 with h2 | ⟨b2, f2, rfl, hb2, hr2, -⟩
    · left; simp [h2]
    · exact Or.inr ⟨b2, f2, rfl, by rw [List.mem_range'_1]; have := hr2.lt; omega, hr2⟩
end Go.Proofs.Ytiipcgnkfhjpeaa
/-
  THE LAWS' OWN COUNT OF AN ARGUMENT (szExpr, szExprS): what is left of the budget; nothing that was there is changed.
-/
namespace Go.Proofs.Ytiipcgnkfhjpeaa
set_option linter.unusedVariables false
set_option linter.unusedSimpArgs false
open Go.RowKit

end Go.Proofs.Ytiipcgnkfhjpeaa
/-
  THE WALK OF FnExactAddressesOf.
-/
namespace Go.Proofs.Ytiipcgnkfhjpeaa.lawExactAddressesOf
open Go.ChangeShapes Go.WideShapes Go.ChangeAt Go.RowKit
set_option linter.unusedVariables false
set_option linter.unusedSimpArgs false

theorem sumK_le3W : ∀ (g : List Ce), (∀ c ∈ g, c.kids.length ≤ 3) → sumK g ≤ 3 * g.length
  | [], _ => by simp [sumK]
  | c :: g, h => by
    have h1 := h c (List.mem_cons_self ..)
    have h2 := sumK_le3W g fun d hd => h d (List.mem_cons_of_mem _ hd)
    have h3 : sumK (c :: g) = c.kids.length + sumK g := by simp [sumK]
    rw [h3]
    simp only [List.length_cons]
    omega
theorem unpO_small (ws : List Int) : (unpO ws).1.length + sumK (unpO ws).1 ≤ 2000 ∧ (unpO ws).2.1.length ≤ 2000 := by
  by_cases hb : ws.length ≤ 1600
  · cases hs : startsW ws 0 with
    | none => rw [unpO_none hs]; simp [sumK]
    | some st =>
      cases hg : graphB (graphW ws st) 6 with
      | false => rw [unpO_bad hs hg]; simp [sumK]
      | true =>
        rw [unpO_yes hb hs hg]
        have h1 := graphB_len hg
        have h2 : sumK (graphW ws st) ≤ 3 * (graphW ws st).length := sumK_le3W _ fun c hc => by
          obtain ⟨j, hj, rfl⟩ := List.getElem_of_mem hc
          exact (graph_cell hg j hj).2.2.2.2
        have h3 := starts_small hs
        show (graphW ws st).length + sumK (graphW ws st) ≤ 2000 ∧ st.length ≤ 2000
        omega
  · rw [unpO_long hb]; simp [sumK]

set_option maxRecDepth 100000 in
set_option maxHeartbeats 12800000 in
theorem walk (xs : List Int) (ca : Value) (w : World) (hak : IIn w xs ca) (hw : ∀ x ∈ xs, I64 x) :
    Calls Try.prog 7 #[ca] w fun e w' => e = .returned (.bool true) ∧ Below w.heap.size w w' := by
  have HA : Hid (IIn w xs ca) := hak
  obtain ⟨ada, capa, rfl, hal, ham, -⟩ := hak
  unfold maxLen at ham
  obtain ⟨X, hX⟩ : ∃ X : List Int, X = (unpO xs).2.1 := ⟨_, rfl⟩
  obtain ⟨r1, hr1⟩ : ∃ r : Bool, r = (unpO xs).2.2 := ⟨_, rfl⟩
  have HXS : Hid (X.length ≤ 2000) := by rw [hX]; exact (unpO_small xs).2
  have HSS0 : Hid (xs.length ≤ 1048576 → ∀ (u : Value) (W : World), IIn W xs u → Calls Try.prog 29 #[u] W fun en w' => ∃ v, en = .returned (.tuple #[v, .bool r1]) ∧ IIn w' X v ∧ Below W.heap.size W w') := fun hl u W h1 => by
    rw [hX, hr1]; exact specAddr_calls xs u W h1 hw hl
  have HSI0 : Hid (xs.length ≤ 1048576 → ∀ (u : Value) (W : World), IIn W xs u → Calls Try.prog 30 #[u] W fun en w' => ∃ v, en = .returned (.tuple #[v, .bool r1]) ∧ (∃ b, OneRow w' b X v ∧ W.heap.size ≤ b) ∧ Below W.heap.size W w') := fun hl u W h1 => (implAddr_calls xs u W h1 hw hl).mono fun en w' h => by
    obtain ⟨v, e1, e2, e3⟩ := h
    obtain ⟨b, e4, e5⟩ := one_of_row e2 W.heap.size
    rw [hX, hr1]
    exact ⟨v, e1, ⟨b, e4, by rcases e5 with e5 | e5 <;> omega⟩, e3⟩
  clear hX hr1 hw
  go_enter Try.func7, Try.ntmps7
  have HB_w : Hid (Below w.heap.size w w) := Below.refl _ _
  by_cases hlen : (1048576 : Int) < (xs.length : Int)
  · go_wp2_with fail
    go_ret
    exact ⟨rfl, HB_w.out⟩
  have HL : Hid (xs.length ≤ 1048576) := by unfold Hid; omega
  have HSS := mkHid (HSS0.out HL.out)
  have HSI := mkHid (HSI0.out HL.out)
  have hleft0 : (0 : Int) ≤ 1048576 ∧ (1048576 : Int) ≤ 1048576 := by omega
  go_wp2_with fail
  -- the model's answer
  refine (toInts_calls xs (.slice ada xs.length capa) w (HA.out.next HB_w.out) HL.out).mono ?_
  rintro en w1 ⟨sA, rfl, hvsA, hbsA⟩
  have HXw1 : Hid (Below w.heap.size w w1) := hbsA
  have HsA_w1 : Hid (IIn w1 xs sA) := hvsA.inn
  clear hvsA hbsA
  go_wp2_with fail
  refine (HSS.out sA w1 HsA_w1.out).mono ?_
  rintro en w2 ⟨vsL, rfl, hres, hbr⟩
  have HXw2 : Hid (Below w.heap.size w w2) := HXw1.out.trans (hbr.mono HXw1.out.size)
  have HRs := mkHid hres
  have HSs : Hid (w1.heap.size ≤ w2.heap.size ∧ w.heap.size ≤ w1.heap.size) := ⟨hbr.size, HXw1.out.size⟩
  clear hres hbr
  have HB_w2 : Hid (Below w.heap.size w w2) := HB_w.out.trans (HXw2.out.mono HB_w.out.size)
  have S0 : Hid (w.heap.size ≤ w2.heap.size) := HB_w2.out.size
  have LE_w2 : Hid (w2.heap.size ≤ w2.heap.size) := Nat.le_refl _
  have W1_w2 : Hid (IntsOn w2 (Lt w2.heap.size) X vsL) := HRs.out
  -- the program's arguments
  go_wp2_with fail
  refine (toInts_calls xs (.slice ada xs.length capa) _ (HA.out.next HB_w2.out) HL.out).mono ?_
  rintro en w3 ⟨xA, rfl, hv, hb⟩
  obtain ⟨fA, hfA⟩ : ∃ fA, fA = List.range' w2.heap.size (w3.heap.size - w2.heap.size) := ⟨_, rfl⟩
  have S1 : Hid (w2.heap.size ≤ w3.heap.size) := hb.size
  have HF_fA : Hid (True ∧ ∀ k ∈ fA, w2.heap.size ≤ k ∧ k < w3.heap.size) := ⟨trivial, fun k hk => by rw [hfA, List.mem_range'_1] at hk; have := S1.out; omega⟩
  have LE_w3 : Hid (w2.heap.size ≤ w3.heap.size) := Nat.le_trans LE_w2.out hb.size
  have W1_w3 : Hid (IntsOn w3 (Lt w2.heap.size) X vsL) := W1_w2.out.mono (fun _ hk => hk) fun k hk => hb.block k (Nat.lt_of_lt_of_le hk LE_w2.out)
  have HB_w3 : Hid (Below w.heap.size w w3) := HB_w2.out.trans (hb.mono HB_w2.out.size)
  have ZfA_w3 : Hid (w3.heap.size ≤ w3.heap.size) := Nat.le_refl _
  have XA_w3 : Hid (IIn w3 xs xA) := hv.inn
  have KA_w3 : Hid (IShape w3 fA xs.length xA) := by rw [Hid, hfA]; exact IntRow.shape hv
  clear hv hb hfA
  go_wp2_with fail
  -- the program's answer
  refine (HSI.out xA _ XA_w3.out).mono ?_
  rintro en w4 ⟨gL, rfl, hres, hb⟩
  have SR : Hid (w3.heap.size ≤ w4.heap.size) := hb.size
  obtain ⟨bL, hil, hbl⟩ := hres
  have HF_bL : Hid (∀ k, k = bL → w3.heap.size ≤ k) := fun k hk => by rw [hk]; exact hbl
  have LE_w4 : Hid (w2.heap.size ≤ w4.heap.size) := Nat.le_trans LE_w3.out hb.size
  have W1_w4 : Hid (IntsOn w4 (Lt w2.heap.size) X vsL) := W1_w3.out.mono (fun _ hk => hk) fun k hk => hb.block k (Nat.lt_of_lt_of_le hk LE_w3.out)
  have ZfA_w4 : Hid (w3.heap.size ≤ w4.heap.size) := Nat.le_trans ZfA_w3.out hb.size
  have XA_w4 : Hid (IIn w4 xs xA) := XA_w3.out.next hb
  have KA_w4 : Hid (IShape w4 fA xs.length xA) := IShape.blocks KA_w3.out fun b hb9 => hb.block b (Nat.lt_of_lt_of_le (HF_fA.out.2 b hb9).2 ZfA_w3.out)
  have HB_w4 : Hid (Below w.heap.size w w4) := HB_w3.out.trans (hb.mono HB_w3.out.size)
  have IO_w4 : Hid (OneRow w4 bL X gL) := hil
  clear hb hil hbl
  have t1 : (r1 != r1) = false := by simp
  obtain ⟨adL, capL, rfl⟩ := IO_w4.out.form
  obtain ⟨adSL, capSL, rfl, -, -, -⟩ := id W1_w4.out
  go_wp2_with fail
  refine (eqInts_calls X _ _ _ IO_w4.out.inn (W1_w4.out.mono (fun k hk => Nat.lt_of_lt_of_le hk LE_w4.out) fun _ _ => rfl)).mono ?_
  rintro en w5 ⟨rfl, hb⟩
  have LE_w5 : Hid (w2.heap.size ≤ w5.heap.size) := Nat.le_trans LE_w4.out hb.size
  have W1_w5 : Hid (IntsOn w5 (Lt w2.heap.size) X (.slice adSL X.length capSL)) := W1_w4.out.mono (fun _ hk => hk) fun k hk => hb.block k (Nat.lt_of_lt_of_le hk LE_w4.out)
  have ZfA_w5 : Hid (w3.heap.size ≤ w5.heap.size) := Nat.le_trans ZfA_w4.out hb.size
  have XA_w5 : Hid (IIn w5 xs xA) := XA_w4.out.next hb
  have KA_w5 : Hid (IShape w5 fA xs.length xA) := IShape.blocks KA_w4.out fun b hb9 => hb.block b (Nat.lt_of_lt_of_le (HF_fA.out.2 b hb9).2 ZfA_w4.out)
  have IO_w5 : Hid (OneRow w5 bL X (.slice adL X.length capL)) := OneRow.next IO_w4.out hb
  have HB_w5 : Hid (Below w.heap.size w w5) := HB_w4.out.trans (hb.mono HB_w4.out.size)
  clear hb
  go_wp2_with fail
  refine (toInts_calls xs (.slice ada xs.length capa) _ (HA.out.next HB_w5.out) HL.out).mono ?_
  rintro en w6 ⟨yA, rfl, hvyA, hbyA⟩
  have LE_w6 : Hid (w2.heap.size ≤ w6.heap.size) := Nat.le_trans LE_w5.out hbyA.size
  have W1_w6 : Hid (IntsOn w6 (Lt w2.heap.size) X (.slice adSL X.length capSL)) := W1_w5.out.mono (fun _ hk => hk) fun k hk => hbyA.block k (Nat.lt_of_lt_of_le hk LE_w5.out)
  have ZfA_w6 : Hid (w3.heap.size ≤ w6.heap.size) := Nat.le_trans ZfA_w5.out hbyA.size
  have XA_w6 : Hid (IIn w6 xs xA) := XA_w5.out.next hbyA
  have KA_w6 : Hid (IShape w6 fA xs.length xA) := IShape.blocks KA_w5.out fun b hb9 => hbyA.block b (Nat.lt_of_lt_of_le (HF_fA.out.2 b hb9).2 ZfA_w5.out)
  have IO_w6 : Hid (OneRow w6 bL X (.slice adL X.length capL)) := OneRow.next IO_w5.out hbyA
  have HB_w6 : Hid (Below w.heap.size w w6) := HB_w5.out.trans (hbyA.mono HB_w5.out.size)
  have HY : Hid (IIn w6 xs yA) := hvyA.inn
  clear hvyA hbyA
  go_wp2_with fail
  refine (eqInts_calls xs xA yA _ XA_w6.out HY.out).mono ?_
  rintro en w7 ⟨rfl, hb⟩
  clear HY
  have LE_w7 : Hid (w2.heap.size ≤ w7.heap.size) := Nat.le_trans LE_w6.out hb.size
  have W1_w7 : Hid (IntsOn w7 (Lt w2.heap.size) X (.slice adSL X.length capSL)) := W1_w6.out.mono (fun _ hk => hk) fun k hk => hb.block k (Nat.lt_of_lt_of_le hk LE_w6.out)
  have ZfA_w7 : Hid (w3.heap.size ≤ w7.heap.size) := Nat.le_trans ZfA_w6.out hb.size
  have XA_w7 : Hid (IIn w7 xs xA) := XA_w6.out.next hb
  have KA_w7 : Hid (IShape w7 fA xs.length xA) := IShape.blocks KA_w6.out fun b hb9 => hb.block b (Nat.lt_of_lt_of_le (HF_fA.out.2 b hb9).2 ZfA_w6.out)
  have IO_w7 : Hid (OneRow w7 bL X (.slice adL X.length capL)) := OneRow.next IO_w6.out hb
  have HB_w7 : Hid (Below w.heap.size w w7) := HB_w6.out.trans (hb.mono HB_w6.out.size)
  clear hb
  -- the arguments are marked
  go_wp2_with fail
  refine (markI_calls xs.length fA xA 1 w7 KA_w7.out (by omega) (by have := HL.out; omega)).mono ?_
  rintro en w8 ⟨rfl, hk9⟩
  have hb := hk9.but
  clear hk9
  have LE_w8 : Hid (w2.heap.size ≤ w8.heap.size) := Nat.le_trans LE_w7.out hb.size
  have W1_w8 : Hid (IntsOn w8 (Lt w2.heap.size) X (.slice adSL X.length capSL)) := W1_w7.out.mono (fun _ hk => hk) fun k (hk : k < _) => hb.block k (Nat.lt_of_lt_of_le hk LE_w7.out) (fun h => by have := (HF_fA.out.2 _ h); have := S0.out; have := S1.out; have := SR.out; omega)
  have IO_w8 : Hid (OneRow w8 bL X (.slice adL X.length capL)) := OneRow.keep IO_w7.out fun b hb9 hz9 => hb.block b hz9 (fun h => by have := (HF_fA.out.2 _ h); have := (HF_bL.out b hb9); have := S0.out; have := S1.out; have := SR.out; omega)
  have HB_w8 : Hid (Below w.heap.size w w8) := HB_w7.out.trans (hb.below (fun k h => by have := (HF_fA.out.2 _ h); have := S0.out; have := S1.out; have := SR.out; omega) HB_w7.out.size)
  clear hb
  obtain ⟨kA, hkA⟩ : ∃ kA : Int, kA = 1 + (xs.length : Int) := ⟨_, rfl⟩
  rw [← hkA]
  have hkA0 : 0 ≤ kA := by omega
  clear hkA
  go_wp2_with fail
  refine (eqInts_calls X _ _ _ IO_w8.out.inn (W1_w8.out.mono (fun k hk => Nat.lt_of_lt_of_le hk LE_w8.out) fun _ _ => rfl)).mono ?_
  rintro en w9 ⟨rfl, hb⟩
  have LE_w9 : Hid (w2.heap.size ≤ w9.heap.size) := Nat.le_trans LE_w8.out hb.size
  have W1_w9 : Hid (IntsOn w9 (Lt w2.heap.size) X (.slice adSL X.length capSL)) := W1_w8.out.mono (fun _ hk => hk) fun k hk => hb.block k (Nat.lt_of_lt_of_le hk LE_w8.out)
  have IO_w9 : Hid (OneRow w9 bL X (.slice adL X.length capL)) := OneRow.next IO_w8.out hb
  have HB_w9 : Hid (Below w.heap.size w w9) := HB_w8.out.trans (hb.mono HB_w8.out.size)
  clear hb
  go_wp2_with fail
  -- the answer is marked
  refine (markOne_calls X bL _ 1 w9 IO_w9.out (by omega) (by have := HXS.out; omega)).mono ?_
  rintro en w10 ⟨rfl, hk9, hb⟩
  have LE_w10 : Hid (w2.heap.size ≤ w10.heap.size) := Nat.le_trans LE_w9.out hb.size
  have W1_w10 : Hid (IntsOn w10 (Lt w2.heap.size) X (.slice adSL X.length capSL)) := W1_w9.out.mono (fun _ hk => hk) fun k (hk : k < _) => hb.block k (Nat.lt_of_lt_of_le hk LE_w9.out) (fun h => by have := HF_bL.out k (List.mem_singleton.1 h); have := S0.out; have := S1.out; have := SR.out; omega)
  have HB_w10 : Hid (Below w.heap.size w w10) := HB_w9.out.trans (hb.below (fun k h => by have := HF_bL.out k (List.mem_singleton.1 h); have := S0.out; have := S1.out; have := SR.out; omega) HB_w9.out.size)
  have IL_w10 : Hid (OneRow w10 bL (upFrom 1 X.length) (.slice adL X.length capL)) := hk9
  clear hb hk9
  obtain ⟨mL, hmL⟩ : ∃ mL : Int, mL = 1 + (X.length : Int) := ⟨_, rfl⟩
  have HML := mkHid hmL
  have hmL0 : 0 ≤ mL ∧ mL ≤ 2097152 := by have := HXS.out; omega
  rw [← hmL]
  clear hmL
  go_wp2_with fail
  refine (heldInts_calls X.length _ 1 w10 IL_w10.out.inn (by omega) (by have := HXS.out; omega)).mono ?_
  rintro en w11 ⟨rfl, hb⟩
  rw [← HML.out]
  have LE_w11 : Hid (w2.heap.size ≤ w11.heap.size) := Nat.le_trans LE_w10.out hb.size
  have W1_w11 : Hid (IntsOn w11 (Lt w2.heap.size) X (.slice adSL X.length capSL)) := W1_w10.out.mono (fun _ hk => hk) fun k hk => hb.block k (Nat.lt_of_lt_of_le hk LE_w10.out)
  have IL_w11 : Hid (OneRow w11 bL (upFrom 1 X.length) (.slice adL X.length capL)) := OneRow.next IL_w10.out hb
  have HB_w11 : Hid (Below w.heap.size w w11) := HB_w10.out.trans (hb.mono HB_w10.out.size)
  clear hb
  have tm : (mL != mL) = false := by simp
  go_wp2_with fail
  -- called once more
  refine (toInts_calls xs (.slice ada xs.length capa) w11 (HA.out.next HB_w11.out) HL.out).mono ?_
  rintro en w12 ⟨hA, rfl, hvhA, hbhA⟩
  have HXw12 : Hid (Below w11.heap.size w11 w12) := hbhA
  have HhA_w12 : Hid (IIn w12 xs hA) := hvhA.inn
  clear hvhA hbhA
  go_wp2_with fail
  refine (HSI.out hA w12 HhA_w12.out).mono ?_
  rintro en w13 ⟨vhL, rfl, hres, hbr⟩
  have HXw13 : Hid (Below w11.heap.size w11 w13) := HXw12.out.trans (hbr.mono HXw12.out.size)
  have HRh := mkHid hres
  have HSh : Hid (w12.heap.size ≤ w13.heap.size ∧ w11.heap.size ≤ w12.heap.size) := ⟨hbr.size, HXw12.out.size⟩
  clear hres hbr
  have LE_w13 : Hid (w2.heap.size ≤ w13.heap.size) := Nat.le_trans LE_w11.out HXw13.out.size
  have W1_w13 : Hid (IntsOn w13 (Lt w2.heap.size) X (.slice adSL X.length capSL)) := W1_w11.out.mono (fun _ hk => hk) fun k hk => HXw13.out.block k (Nat.lt_of_lt_of_le hk LE_w11.out)
  have IL_w13 : Hid (OneRow w13 bL (upFrom 1 X.length) (.slice adL X.length capL)) := OneRow.next IL_w11.out HXw13.out
  have HB_w13 : Hid (Below w.heap.size w w13) := HB_w11.out.trans (HXw13.out.mono HB_w11.out.size)
  obtain ⟨bH, HIH, -⟩ := HRh.out
  have HIH := mkHid HIH
  obtain ⟨adH, capH, rfl⟩ := HIH.out.form
  go_wp2_with fail
  refine (eqInts_calls X _ _ _ HIH.out.inn (W1_w13.out.mono (fun k hk => Nat.lt_of_lt_of_le hk LE_w13.out) fun _ _ => rfl)).mono ?_
  rintro en w14 ⟨rfl, hb⟩
  have LE_w14 : Hid (w2.heap.size ≤ w14.heap.size) := Nat.le_trans LE_w13.out hb.size
  have W1_w14 : Hid (IntsOn w14 (Lt w2.heap.size) X (.slice adSL X.length capSL)) := W1_w13.out.mono (fun _ hk => hk) fun k hk => hb.block k (Nat.lt_of_lt_of_le hk LE_w13.out)
  have IL_w14 : Hid (OneRow w14 bL (upFrom 1 X.length) (.slice adL X.length capL)) := OneRow.next IL_w13.out hb
  have HB_w14 : Hid (Below w.heap.size w w14) := HB_w13.out.trans (hb.mono HB_w13.out.size)
  clear hb
  go_wp2_with fail
  refine (heldInts_calls X.length _ 1 w14 IL_w14.out.inn (by omega) (by have := HXS.out; omega)).mono ?_
  rintro en w15 ⟨rfl, hb⟩
  rw [← HML.out]
  have IL_w15 : Hid (OneRow w15 bL (upFrom 1 X.length) (.slice adL X.length capL)) := OneRow.next IL_w14.out hb
  have HB_w15 : Hid (Below w.heap.size w w15) := HB_w14.out.trans (hb.mono HB_w14.out.size)
  clear hb
  go_wp2_with fail
  go_ret
  exact ⟨rfl, HB_w15.out⟩
end Go.Proofs.Ytiipcgnkfhjpeaa.lawExactAddressesOf
