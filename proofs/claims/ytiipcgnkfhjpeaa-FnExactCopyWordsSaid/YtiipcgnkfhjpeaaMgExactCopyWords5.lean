/-
  LISTS OF TREES WITH DISTINCT BLOCKS THAT A CALL BUILDS BY append.
-/
import Derived.Test.YtiipcgnkfhjpeaaMgExactCopyWords4
import Derived.Test.YtiipcgnkfhjpeaaMgExactCopyWords3
import Derived.Test.YtiipcgnkfhjpeaaMgExactCopyWords2
import Derived.Deep.DeepCutAuto
import Derived.Deep.RegionWith
import Derived.Test.YtiipcgnkfhjpeaaMgExactCopyWords1
namespace Go.Proofs.Ytiipcgnkfhjpeaa
set_option linter.unusedVariables false
set_option linter.unusedSimpArgs false
open Go.RowKit

/-- a list of trees that a call has built by append: the row is its own, each tree has its own blocks, all from lo on -/
def OwnF (w : World) (lo hi : Nat) (ts : List Tr) (v : Value) : Prop :=
  ∃ (xs : List Value) (fps : List (List Nat)), w.ownsRow lo 91 3 v ts.length xs ∧ fps.length = ts.length ∧
    (∀ j (hj : j < ts.length), ∃ f, fps[j]? = some f ∧ ∃ a b c, xs[j * 3]? = some a ∧ xs[j * 3 + 1]? = some b ∧ xs[j * 3 + 2]? = some c ∧ TrFp w 91 ts[j] f a b c) ∧
    fps.flatten.Nodup ∧ ∀ k ∈ fps.flatten, lo ≤ k ∧ k < hi ∧ some k ≠ v.ownBlock

theorem OwnF.nil (w : World) (lo hi : Nat) : OwnF w lo hi [] (.slice none 0 0) := ⟨[], [], World.ownsRow_nil w lo _ _, rfl, fun j hj => absurd hj (by simp), by simp, by simp⟩
theorem OwnF.next {w w' : World} {lo hi hi' : Nat} {ts : List Tr} {v : Value} (h : OwnF w lo hi ts v) (hh : hi ≤ hi') (hs : hi ≤ w.heap.size) (hb : ∀ k, lo ≤ k → k < w.heap.size → w'.heap[k]? = w.heap[k]?) : OwnF w' lo hi' ts v := by
  obtain ⟨xs, fps, h1, h2, h3, h4, h5⟩ := h
  refine ⟨xs, fps, own_keep h1 hb, h2, fun j hj => ?_, h4, fun k hk => ⟨(h5 k hk).1, Nat.lt_of_lt_of_le (h5 k hk).2.1 hh, (h5 k hk).2.2⟩⟩
  obtain ⟨f, e0, a, b, c, e1, e2, e3, e4⟩ := h3 j hj
  exact ⟨f, e0, a, b, c, e1, e2, e3, TrFp.keep _ _ _ _ _ (fun k hk => by
    have := h5 k (List.mem_flatten.2 ⟨f, List.mem_of_getElem? e0, hk⟩)
    exact hb k this.1 (Nat.lt_of_lt_of_le this.2.1 hs)) e4⟩
theorem OwnF.row {w : World} {lo hi : Nat} {ts : List Tr} {v : Value} (h : OwnF w lo hi ts v) : ∃ xs, w.ownsRow lo 91 3 v ts.length xs := by
  obtain ⟨xs, -, h1, -⟩ := h; exact ⟨xs, h1⟩
/-- one tree more -/
theorem OwnF.step {w w' : World} {lo hi : Nat} {ts : List Tr} {v v' : Value} {t : Tr} {a b c : Value} {f : List Nat} (h : OwnF w lo hi ts v) (hlo : lo ≤ hi) (hs : hi ≤ w.heap.size)
    (hn : TrFp w 91 t f a b c) (hf : f.Nodup) (hfl : ∀ k ∈ f, hi ≤ k ∧ k < w.heap.size ∧ some k ≠ v.ownBlock) (xs : List Value) (hx : w.ownsRow lo 91 3 v ts.length xs)
    (hown : w'.ownsRow lo 91 3 v' (ts.length + 1) (xs ++ [a, b, c])) (hg : w.grownBy w' v.ownBlock) (hw : v'.ownBlock = v.ownBlock ∨ ∃ g, v'.ownBlock = some g ∧ w.heap.size ≤ g) : OwnF w' lo w.heap.size (ts ++ [t]) v' := by
  obtain ⟨xs2, fps, h1, h2, h3, h4, h5⟩ := h
  -- the row's cells are the same
  have hxs : xs2 = xs := by
    rcases h1.2 with ⟨rfl, h0⟩ | ⟨g, cap, cur, rfl, hg', hh, hn', hc, hs, htk⟩
    · have a1 := h1.1
      have a2 := hx.1
      rw [h0] at a1 a2
      rw [List.eq_nil_of_length_eq_zero (by omega : xs2.length = 0), List.eq_nil_of_length_eq_zero (by omega : xs.length = 0)]
    · rcases hx.2 with ⟨e, -⟩ | ⟨g2, cap2, cur2, e, -, hh2, -, -, -, htk2⟩
      · cases e
      · cases e
        rw [hh] at hh2
        cases hh2
        rw [← htk, ← htk2]
  subst hxs
  have hlen := h1.1
  have keepB : ∀ k, lo ≤ k ∧ k < w.heap.size ∧ some k ≠ v.ownBlock → w'.heap[k]? = w.heap[k]? := fun k hk => hg.block k hk.2.1 hk.2.2
  have nb : ∀ k, k < w.heap.size → some k ≠ v.ownBlock → some k ≠ v'.ownBlock := fun k hk hkv => by
    rcases hw with hw | ⟨g, hw, hge⟩
    · rw [hw]; exact hkv
    · rw [hw]; intro e; simp only [Option.some.injEq] at e; omega
  refine ⟨xs2 ++ [a, b, c], fps ++ [f], by simpa using hown, by simp [h2], fun j hj => ?_, ?_, ?_⟩
  · by_cases hjl : j < ts.length
    · obtain ⟨f', e0, x, y, z, e1, e2, e3, e4⟩ := h3 j hjl
      refine ⟨f', ?_, x, y, z, ?_, ?_, ?_, ?_⟩
      · rw [List.getElem?_append_left (by omega)]; exact e0
      · rw [List.getElem?_append_left (by omega)]; exact e1
      · rw [List.getElem?_append_left (by omega)]; exact e2
      · rw [List.getElem?_append_left (by omega)]; exact e3
      · rw [List.getElem_append_left hjl]
        exact TrFp.keep _ _ _ _ _ (fun k hk => by
          have := h5 k (List.mem_flatten.2 ⟨f', List.mem_of_getElem? e0, hk⟩)
          exact keepB k ⟨this.1, Nat.lt_of_lt_of_le this.2.1 hs, this.2.2⟩) e4
    · have hj' : j = ts.length := by simp at hj; omega
      subst hj'
      refine ⟨f, ?_, a, b, c, ?_, ?_, ?_, ?_⟩
      · rw [List.getElem?_append_right (by omega)]; simp [h2]
      · rw [List.getElem?_append_right (by omega)]; simp [hlen]
      · rw [List.getElem?_append_right (by omega)]; simp [hlen]
      · rw [List.getElem?_append_right (by omega)]; simp [hlen]
      · simpa using TrFp.keep _ _ _ _ _ (fun k hk => keepB k ⟨Nat.le_trans hlo (hfl k hk).1, (hfl k hk).2⟩) hn
  · rw [List.flatten_append, List.nodup_append]
    refine ⟨h4, by simpa using hf, fun x hx y hy e => ?_⟩
    subst e
    have e1 := (h5 x hx).2.1
    have e2 := (hfl x (by simpa using hy)).1
    omega
  · intro k hk
    simp only [List.flatten_append, List.mem_append] at hk
    rcases hk with hk | hk
    · have := h5 k hk
      exact ⟨this.1, Nat.lt_of_lt_of_le this.2.1 hs, nb k (Nat.lt_of_lt_of_le this.2.1 hs) this.2.2⟩
    · have := hfl k (by simpa using hk)
      exact ⟨Nat.le_trans hlo this.1, this.2.1, nb k this.2.1 this.2.2⟩
end Go.Proofs.Ytiipcgnkfhjpeaa
/-
  THE BLOCK OF A ROW THAT A CALL OWNS; three cells of a box.
-/
namespace Go.Proofs.Ytiipcgnkfhjpeaa
set_option linter.unusedVariables false
set_option linter.unusedSimpArgs false
open Go.RowKit

end Go.Proofs.Ytiipcgnkfhjpeaa
/-
  ONE TREE MORE IN A LIST THAT A CALL BUILDS: behind the tree's box and its cells.
-/
namespace Go.Proofs.Ytiipcgnkfhjpeaa
set_option linter.unusedVariables false
set_option linter.unusedSimpArgs false
open Go.RowKit

end Go.Proofs.Ytiipcgnkfhjpeaa
/-
  THE MODEL's l3Add: the cells of an expression, added to a graph that is being built.
-/
namespace Go.Proofs.Ytiipcgnkfhjpeaa
set_option linter.unusedVariables false
set_option linter.unusedSimpArgs false
open Go.RowKit

end Go.Proofs.Ytiipcgnkfhjpeaa
/-
  SMALL FACTS for the model's BuildGraph and AddExpr.
-/
namespace Go.Proofs.Ytiipcgnkfhjpeaa
set_option linter.unusedVariables false
set_option linter.unusedSimpArgs false
open Go.RowKit

theorem below_grown {w w1 w2 : World} {v : Value} (hb : Below w.heap.size w w1) (h : w1.grownBy w2 v.ownBlock) (ho : ∀ k, v.ownBlock = some k → w.heap.size ≤ k) : Below w.heap.size w w2 :=
  ⟨h.os.trans hb.os, h.tape.trans hb.tape, h.output.trans hb.output, Nat.le_trans hb.size h.size, fun k hk => (h.block k (Nat.lt_of_lt_of_le hk hb.size) fun e => by have := ho k e.symm; omega).trans (hb.block k hk)⟩
end Go.Proofs.Ytiipcgnkfhjpeaa
/-
  THE MODEL's l7Unpack, UnpackWords, AddressesOf.
-/
namespace Go.Proofs.Ytiipcgnkfhjpeaa
set_option linter.unusedVariables false
set_option linter.unusedSimpArgs false
open Go.RowKit


/-- a graph, addresses, and whether there are any -/
def GotUnp (r : List Ce × List Int × Bool) (w : World) (e : Ending) (w' : World) : Prop := ∃ gv t, e = .returned (.tuple #[gv, t, .bool r.2.2]) ∧ CIn w' r.1 gv ∧ IIn w' r.2.1 t ∧ Below w.heap.size w w'
theorem oc_form {w : World} {lo : Nat} {S : Nat → Prop} {g : List Ce} {v : Value} (h : OwnC w lo S g v) : ∃ ad n cap, v = .slice ad n cap := by obtain ⟨ad, cap, e⟩ := h.form; exact ⟨ad, _, cap, e⟩
theorem cin_nil (w : World) (ad : Option Addr) (cap : Nat) (h : cap ≤ maxLen) : CIn w [] (.slice ad 0 cap) := ⟨ad, cap, rfl, Nat.zero_le _, h, Or.inl rfl⟩
theorem cellW_64 {ws : List Int} {a : Nat} (hw : ∀ x ∈ ws, I64 x) (ha : a < ws.length) (he : a + wLen (opW ws a) ≤ ws.length) (hc : wLen (opW ws a) ≠ 0) : I64 (cellW ws a).op ∧ I64 (cellW ws a).num := by
  have h2 := wLen_pos hc
  refine ⟨by rw [cellW_op, opW_at ha]; exact hw _ (List.getElem_mem ha), ?_⟩
  cases h : isNumOp (opW ws a) with
  | true => rw [cellW_num h]; show I64 (opW ws (a + 1)); rw [opW_at (by omega)]; exact hw _ (List.getElem_mem _)
  | false => rw [cellW_kid h]; unfold I64; simp
set_option maxRecDepth 100000 in
set_option maxHeartbeats 1600000 in
theorem l7Unpack_calls (ws : List Int) (v : Value) (w : World) (hk : IIn w ws v) (hw : ∀ x ∈ ws, I64 x) (hl : ws.length ≤ 1048576) :
    Calls Try.prog 40 #[v] w (GotUnp (unpO ws) w) := by
  have HK := mkHid hk
  have HW := mkHid hw
  obtain ⟨ad, cap, rfl, hlc, hm, -⟩ := hk
  unfold maxLen at hm
  clear hw
  go_enter Try.func40, Try.ntmps40
  by_cases hbig : ws.length ≤ 1600
  case neg =>
    have HV := mkHid (unpO_long hbig)
    have hb' : (1600 : Int) < (ws.length : Int) := by omega
    clear hbig
    go_wp2_with fail
    refine bodyPost_ret (v := .tuple #[.slice (some ⟨w.heap.size, 0, none⟩) 0 0, .slice (some ⟨w.heap.size + 1, 0, none⟩) 0 0, .bool false]) (by simp [results, Try.results40, go_sem]) rfl ?_
    rw [HV.out]
    exact ⟨_, _, rfl, cin_nil _ _ _ (by simp [maxLen]), (no_ints _ 0 _ _ (by simp [maxLen])).inn, (box_below _ _).alloc (by rw [Deep.nblk_alloc]; omega) _⟩
  go_wp2_with fail
  refine (l7Starts_calls ws _ w HK.out hl).mono ?_
  rintro e w2 ⟨sv, rfl, hsv, hb2⟩
  have HB2 := mkHid hb2
  have HSV := mkHid hsv
  clear hsv hb2
  obtain ⟨bs, hbs⟩ : ∃ bs, bs = (startsW ws 0).isSome := ⟨_, rfl⟩
  rw [← hbs]
  cases hst : startsW ws 0 with
  | none =>
    have HV := mkHid (unpO_none hst)
    rw [hst] at HSV
    obtain rfl : bs = false := by rw [hbs, hst]; rfl
    clear hst hbs
    have HSV' : Hid (IntRow w2 w.heap.size [] sv) := HSV.out
    obtain ⟨ads, caps, rfl, -, -, -⟩ := id HSV'.out
    go_wp2_with fail
    go_loopw [7, 8] (fun o i wr => (∃ q cp, o = .slice q 0 cp) ∧ i = .int .i64 0 ∧ Below w.heap.size w wr) (fun _ i _ => 0)
    case atStart => exact ⟨⟨_, _, rfl⟩, rfl, HB2.out.alloc HB2.out.size _⟩
    case round =>
      obtain ⟨⟨q, cp, rfl⟩, rfl, hb⟩ := hrel
      have HB := mkHid hb
      clear hb
      go_wp2_with fail
      refine bodyPost_ret (v := .tuple #[.slice (some ⟨wr.heap.size, 0, none⟩) 0 0, .slice (some ⟨wr.heap.size + 1, 0, none⟩) 0 0, .bool false]) (by simp [results, Try.results40, go_sem]) rfl ?_
      rw [HV.out]
      exact ⟨_, _, rfl, cin_nil _ _ _ (by simp [maxLen]), (no_ints _ 0 _ _ (by simp [maxLen])).inn, (HB.out.alloc HB.out.size _).alloc (by rw [Deep.nblk_alloc]; have := HB.out.size; omega) _⟩
  | some st =>
    rw [hst] at HSV
    obtain rfl : bs = true := by rw [hbs, hst]; rfl
    clear hbs
    have HST := mkHid hst
    have HSO := mkHid (starts_sorted hst)
    have hsm := starts_small hst
    have HSC : Hid (∀ x ∈ st, CellAt ws x) := fun x hx => starts_cell HST.out hx
    clear hst
    have HSI : Hid (IIn w2 st sv) := (show IntRow w2 w.heap.size st sv from HSV.out).inn
    obtain ⟨ads, caps, rfl, -, -, -⟩ := id HSI.out
    obtain ⟨iC, zC, hII⟩ := infoC1
    have HII := mkHid hII
    clear hII
    go_wp2_with fail
    go_loopw [7, 8] (fun o i wr => ∃ j : Nat, j ≤ st.length ∧ i = .int .i64 j ∧ OwnC wr w2.heap.size (fun b => w2.heap.size ≤ b ∧ b < wr.heap.size) (graphTo ws st j) o ∧ Below w2.heap.size w2 wr) (fun _ i _ => st.length - (intOf i).toNat)
    case atStart => exact ⟨0, Nat.zero_le _, rfl, by rw [graphTo_zero]; exact OwnC.zeroB _, box_below _ _⟩
    case round =>
      obtain ⟨j, hj, rfl, hown, hb⟩ := hrel
      obtain ⟨wo, rfl⟩ : ∃ wo : World, wo = wr := ⟨_, rfl⟩
      obtain ⟨ado, capo, rfl⟩ := hown.form
      rw [graphTo_len hj] at hown ⊢
      have HO := mkHid hown
      have HB := mkHid hb
      by_cases hlt : j < st.length
      · obtain ⟨b0, o0, rfl, d0w⟩ := HSI.out.at j hlt
        obtain ⟨a, hae, ha, hc, he⟩ := HSC.out _ (List.getElem_mem hlt)
        rw [hae] at d0w
        have d0 := (hb.cell (p := ⟨b0, o0 + j, none⟩) (cell_lt d0w)).trans d0w
        have HSN := mkHid (graphTo_snoc (ws := ws) hlt hae)
        rw [← opW_at ha] at hc he
        have H64 := mkHid (cellW_64 HW.out ha he hc)
        clear hown hb d0w hae
        go_wp2_with fail
        refine (l7Cell_calls ws a _ wo (HK.out.next (HB2.out.trans (HB.out.mono HB2.out.size))) ha hc he hl).mono ?_
        rintro e w5 ⟨kv, rfl, hkv, hb5⟩
        obtain ⟨c, hcw⟩ : ∃ c, c = cellW ws a := ⟨_, rfl⟩
        have HKL : Hid (c.kids.length ≤ 3) := by
          rw [hcw, Hid]
          have h4 := wLen_le (opW ws a)
          cases hnum : isNumOp (opW ws a) with
          | true => rw [cellW_num hnum]; simp
          | false => rw [cellW_kid hnum, List.length_take]; omega
        rw [← hcw] at HSN H64 hkv ⊢
        have HKV : Hid (StkI w5 wo.heap.size (kkW st c.kids 0) kv) := by rw [kkW_zero]; exact hkv
        obtain ⟨adk, capk, rfl⟩ := hkv.len
        have HB5 := mkHid hb5
        clear hcw hkv hb5 d0 hc he ha
        obtain ⟨w6, hw6⟩ : ∃ w6 : World, w6 = w5.alloc (.cells #[.int .i64 c.op, .int .i64 c.num, .slice adk c.kids.length capk] 40) := ⟨_, rfl⟩
        have HX6 : Hid (w6.heap[w5.heap.size]? = some (.cells #[.int .i64 c.op, .int .i64 c.num, .slice adk c.kids.length capk] 40)) := by rw [hw6]; exact Deep.blk_alloc_new _ _
        have HB6 : Hid (Below wo.heap.size wo w6) := by rw [hw6]; exact HB5.out.alloc HB5.out.size _
        have HK6 : Hid (StkI w6 wo.heap.size (kkW st c.kids 0) (.slice adk c.kids.length capk)) := by rw [hw6]; exact StkI.alloc HKV.out _
        go_wp2_with fail
        rw [← hw6]
        clear hw6
        go_loopw [10] (fun i wr => ∃ q : Nat, q ≤ c.kids.length ∧ i = .int .i64 q ∧ wr.heap[w5.heap.size]? = some (.cells #[.int .i64 c.op, .int .i64 c.num, .slice adk c.kids.length capk] 40) ∧ StkI wr wo.heap.size (kkW st c.kids q) (.slice adk c.kids.length capk) ∧ Below wo.heap.size wo wr) (fun i _ => c.kids.length - (intOf i).toNat)
        case atStart => exact ⟨0, Nat.zero_le _, rfl, HX6.out, HK6.out, HB6.out⟩
        case round =>
          obtain ⟨q, hq, rfl, hbx, hkq, hbq⟩ := hrel
          obtain ⟨wq, rfl⟩ : ∃ wq : World, wq = wr := ⟨_, rfl⟩
          have HXQ := mkHid hbx
          have HKQ := mkHid hkq
          have HBQ := mkHid hbq
          have x2 := cell_of_blk hbx 2 _ rfl
          have fx := frz_of_blk hbx
          by_cases hqt : q < c.kids.length
          · obtain ⟨g, cp, cur, he2, hg1, hg2, hg3⟩ := stki_at hkq q (by rw [kkW_length]; exact hqt)
            rw [kkW_length] at he2
            simp only [Value.slice.injEq, true_and] at he2
            obtain ⟨rfl, rfl⟩ := he2
            have hkg : (kkW st c.kids q)[q]'(by rw [kkW_length]; exact hqt) = c.kids[q] := by
              have h := kkW_get (st := st) hqt
              rw [List.getElem?_eq_getElem (by rw [kkW_length]; exact hqt)] at h
              simpa using h
            rw [hkg] at hg3
            obtain ⟨y, hy⟩ : ∃ y, y = c.kids[q] := ⟨_, rfl⟩
            have HSET : Hid (∀ W : World, (∀ k, W.heap[k]? = wq.heap[k]?) → StkI (W.setCell ⟨g, q, none⟩ (.int .i64 (idxI st y))) wo.heap.size (kkW st c.kids (q + 1)) (.slice (some ⟨g, 0, none⟩) c.kids.length capk)) := fun W hW => by
              have h := stki_set (i := q) (y := idxI st y) (StkI.keep HKQ.out (w' := W) fun k _ _ => hW k)
              rw [hy, kkW_set hqt] at h
              rw [hy]
              exact h
            have hgne : g ≠ w5.heap.size := fun e5 => by
              have h7 := HXQ.out
              rw [← e5, hg2] at h7
              simp at h7
            have HGB : Hid (wo.heap.size ≤ g ∧ g ≠ w5.heap.size) := ⟨hg1, hgne⟩
            have fk := frz_of_blk hg2
            rw [← hy] at hg3
            have x2d : wq.drew.cell? ⟨w5.heap.size, 2, none⟩ = some (.slice (some ⟨g, 0, none⟩) c.kids.length capk) := x2
            have hg3d : wq.drew.cell? ⟨g, q, none⟩ = some (.int .i64 y) := hg3
            have HSQ : Hid (IIn wq st (.slice (some ⟨b0, o0, none⟩) st.length caps)) := HSI.out.next (HB.out.trans (HBQ.out.mono HB.out.size))
            have hqI : (q : Int) < (c.kids.length : Int) := by omega
            have hk3 := HKL.out
            have HSL : Hid (st.length ≤ 1048576) := by unfold Hid; omega
            clear hbx hkq hbq hkg hy hg1 hg2 hgne
            go_wp2_with fail
            go_region_with (first
              | (go_at_call 42; refine (l7Index_calls st y _ _ (HSQ.out.drew) HSO.out HSL.out).mono ?_; rintro e w7 ⟨rfl, rfl⟩))
            all_goals
              go_wp2_with fail
              go_roundw
              case rel => exact ⟨q + 1, by omega, by go_num, (Below.heap_setCell _ _ _ _ HGB.out.2.symm).trans HXQ.out, StkI.drew (HSET.out wq fun _ => rfl), (HBQ.out.setCell HGB.out.1 _).drew⟩
              case measure => simp [intOf]; omega
          · have hqe : q = c.kids.length := by omega
            have HKA : Hid (StkI wq wo.heap.size (cellP st c).kids (.slice adk c.kids.length capk)) := by
              have h := HKQ.out
              rw [hqe, kkW_all] at h
              exact h
            have x0 := cell_of_blk HXQ.out 0 _ rfl
            have x1 := cell_of_blk HXQ.out 1 _ rfl
            have HOA : Hid (OwnC (wq.alloc (.cells #[.int .i64 c.op, .int .i64 c.num, .slice adk c.kids.length capk] 40)) w2.heap.size (fun b => w2.heap.size ≤ b ∧ b < wo.heap.size) (graphTo ws st j) (.slice ado j capo)) := (HO.out.keepB HBQ.out).next (fun _ h _ => h) (fun b _ hb => Deep.blk_alloc_lt _ _ _ hb) (fun b _ hb => Deep.blk_alloc_lt _ _ _ hb)
            obtain ⟨xs, hx⟩ := HOA.out.row
            rw [graphTo_len hj] at hx
            have HX := mkHid hx
            have hj9 : j ≤ 800 := by omega
            have HSZ : Hid (w2.heap.size ≤ wo.heap.size ∧ wo.heap.size ≤ wq.heap.size) := ⟨HB.out.size, HBQ.out.size⟩
            clear hbx hkq hbq hqe hx fx
            go_wp2_with (at_builtin; go_must (refine wpList_append_where _ rfl _ _ 27 rfl w2.heap.size 40 iC zC 3 40 Try.underlying27 HII.out.1 HII.out.2.1 HII.out.2.2.1 HII.out.2.2.2.1 HII.out.2.2.2.2 (by decide) (.slice ado j capo) j xs rfl HX.out ⟨wq.heap.size, 0, none⟩ 1 1 [.int .i64 c.op, .int .i64 c.num, .slice adk c.kids.length capk] rfl rfl (news3c wq _ _ _) (by simp [Value.oneCell']) (by unfold maxLen; omega) (by omega) (by rw [Deep.nblk_alloc]; have := HSZ.out; omega) (by omega) ?_); go_must (intro v' w8 hown hg5 hw5); go_must (have HB8 : Hid (Below w2.heap.size w2 w8) := below_grown ((HB.out.trans (HBQ.out.mono HB.out.size)).alloc (by have := HSZ.out; omega) _) hg5 (fun k hk => own_lo HX.out hk.symm)); go_must (have HO8 : Hid (OwnC w8 w2.heap.size (fun b => w2.heap.size ≤ b ∧ b < w8.heap.size) (graphTo ws st (j + 1)) v') := by rw [HSN.out]; exact OwnC.push (c := cellP st c) HOA.out (StkI.alloc HKA.out _) HSZ.out.1 (by rw [Deep.nblk_alloc]; have := HSZ.out; omega) H64.out (by rw [graphTo_len hj]; exact HX.out) (by rw [graphTo_len hj]; exact hown) hg5); go_must (obtain ⟨ad8, n8, cap8, rfl⟩ := oc_form HO8.out); clear hown hg5 hw5 x0 x1 x2)
            go_roundw
            case rel => first | exact ⟨j + 1, by omega, by go_num, HO8.out, HB8.out⟩ | ((repeat apply Exists.intro); exact ⟨⟨j + 1, by omega, by go_num, HO8.out, HB8.out⟩, rfl⟩)
            case measure => simp [intOf]; omega
      · have hje : j = st.length := by omega
        have HOG : Hid (OwnC wo w2.heap.size (fun b => w2.heap.size ≤ b ∧ b < wo.heap.size) (graphW ws st) (.slice ado j capo)) := by
          have h := HO.out
          rw [hje, graphTo_all] at h
          rw [hje]; exact h
        have HCI : Hid (CIn wo (graphW ws st) (.slice ado j capo)) := HOG.out.inn fun k h _ => h.1
        have HBW : Hid (Below w.heap.size w wo) := HB2.out.trans (HB.out.mono HB2.out.size)
        have HS9 : Hid (IIn wo st (.slice ads st.length caps)) := HSI.out.next HB.out
        clear hown hb hje
        go_wp2_with fail
        refine (specGraph_calls (graphW ws st) 6 _ _ HCI.out).mono ?_
        rintro e w7 ⟨rfl, hb7⟩
        have HB7 : Hid (Below w.heap.size w w7) := HBW.out.trans (hb7.mono HBW.out.size)
        have HC7 := mkHid (HCI.out.next hb7)
        have HS7 := mkHid (HS9.out.next hb7)
        clear hb7
        cases hg : graphB (graphW ws st) 6 with
        | false =>
          have HV := mkHid (unpO_bad HST.out hg)
          clear hg
          go_wp2_with fail
          refine bodyPost_ret (v := .tuple #[.slice (some ⟨w7.heap.size, 0, none⟩) 0 0, .slice (some ⟨w7.heap.size + 1, 0, none⟩) 0 0, .bool false]) (by simp [results, Try.results40, go_sem]) rfl ?_
          rw [HV.out]
          exact ⟨_, _, rfl, cin_nil _ _ _ (by simp [maxLen]), (no_ints _ 0 _ _ (by simp [maxLen])).inn, (HB7.out.alloc HB7.out.size _).alloc (by rw [Deep.nblk_alloc]; have := HB7.out.size; omega) _⟩
        | true =>
          have HV := mkHid (unpO_yes hbig HST.out hg)
          clear hg
          go_wp2_with fail
          refine bodyPost_ret (v := .tuple #[.slice ado j capo, .slice ads st.length caps, .bool true]) (by simp [results, Try.results40, go_sem]) rfl ?_
          rw [HV.out]
          exact ⟨_, _, rfl, HC7.out, HS7.out, HB7.out⟩

end Go.Proofs.Ytiipcgnkfhjpeaa
/-
  PLAIN FACTS: when a cell can be scanned, and the answer of ForwardStep. No program is named here.
-/
namespace Go.Proofs.Ytiipcgnkfhjpeaa
set_option linter.unusedVariables false
set_option linter.unusedSimpArgs false

instance (F : List Int) (a : Nat) : Decidable (WholeAt F a) := by unfold WholeAt; exact inferInstance
theorem kidsN7_lt {op : Int} (h : wLen op ≠ 0) : kidsN7 op + 1 ≤ wLen op ∧ kidsN7 op ≤ 3 := by
  have h2 := wLen_pos h
  have h4 := wLen_le op
  unfold kidsN7; split <;> omega
end Go.Proofs.Ytiipcgnkfhjpeaa
/-
  PLAIN FACTS ON COPYING WORDS: how long a heap is behind a scan. No program is named here.
-/
namespace Go.Proofs.Ytiipcgnkfhjpeaa
set_option linter.unusedVariables false
set_option linter.unusedSimpArgs false

/-- a list is what stands behind a place -/
def KidsAt (T : List Int) (scan n : Nat) (xs : List Int) : Prop := xs.length = n ∧ ∀ i, i < n → opW xs i = opW T (scan + (i + 1))
theorem kidsAt_cell {T : List Int} {a : Nat} (hw : WholeAt T a) : KidsAt T a (kidsN7 (opW T a)) (cellW T a).kids := by
  unfold kidsN7
  cases hn : isNumOp (opW T a) with
  | true => rw [cellW_num hn]; exact ⟨rfl, fun i h => absurd h (by simp)⟩
  | false =>
    rw [cellW_kid hn, if_neg (by simp)]
    refine ⟨kidsW_len hw.2 hw.1, fun i hi => ?_⟩
    have h := kidsW_get (q := i) hw.2 hi
    show List.getD _ i 0 = _
    rw [List.getD_eq_getElem?_getD, h, Option.getD_some, show a + (i + 1) = a + 1 + i by omega]
end Go.Proofs.Ytiipcgnkfhjpeaa
/-
  PLAIN FACTS ON COPYING WORDS: a whole copy. No program is named here.
-/
namespace Go.Proofs.Ytiipcgnkfhjpeaa
set_option linter.unusedVariables false
set_option linter.unusedSimpArgs false

/-- the words of the cells that are not forwarded yet -/
def restW (F : List Int) : List Int → Nat
  | [] => 0
  | x :: st => wLen (opW F x.toNat) + restW F st
theorem startsW_total (ws : List Int) : ∀ (n a : Nat), ws.length - a ≤ n → ∀ st, startsW ws a = some st → restW ws st = ws.length - a := by
  intro n
  induction n with
  | zero =>
    intro a hn st h
    rw [startsW_end (by omega)] at h
    cases h
    show 0 = _; omega
  | succ n ih =>
    intro a hn st h
    by_cases ha : a < ws.length
    · by_cases h2 : wLen ws[a] = 0 ∨ ws.length < a + wLen ws[a]
      · rw [startsW_bad ha h2] at h; cases h
      · rw [startsW_go ha h2, Option.map_eq_some_iff] at h
        obtain ⟨st2, h3, rfl⟩ := h
        have h4 : wLen ws[a] ≠ 0 := fun e => h2 (Or.inl e)
        have h5 := wLen_pos h4
        have i1 := ih (a + wLen ws[a]) (by omega) st2 h3
        show wLen (opW ws ((a : Int)).toNat) + restW ws st2 = _
        rw [Int.toNat_natCast, opW_at ha, i1]
        omega
    · rw [startsW_end (by omega)] at h
      cases h
      show 0 = _; omega
/-- no cell begins inside of another one -/
theorem startsW_inner (ws : List Int) : ∀ (n a : Nat), ws.length - a ≤ n → ∀ st, startsW ws a = some st → ∀ x i : Nat, (x : Int) ∈ st → 0 < i → i < wLen (opW ws x) → ((x + i : Nat) : Int) ∉ st := by
  intro n
  induction n with
  | zero =>
    intro a hn st h x i hx
    rw [startsW_end (by omega)] at h
    cases h
    exact absurd hx (by simp)
  | succ n ih =>
    intro a hn st h x i hx h0 h1 hxi
    by_cases ha : a < ws.length
    · by_cases h2 : wLen ws[a] = 0 ∨ ws.length < a + wLen ws[a]
      · rw [startsW_bad ha h2] at h; cases h
      · rw [startsW_go ha h2, Option.map_eq_some_iff] at h
        obtain ⟨st2, h3, rfl⟩ := h
        have h4 : wLen ws[a] ≠ 0 := fun e => h2 (Or.inl e)
        have h5 := wLen_pos h4
        have hge := (startsW_all ws _ (a + wLen ws[a]) (Nat.le_refl _) st2 h3).2
        rcases List.mem_cons.1 hx with e | hx
        · obtain rfl : x = a := by omega
          rw [opW_at ha] at h1
          rcases List.mem_cons.1 hxi with e2 | hxi
          · omega
          · have := (hge _ hxi).1; omega
        · have h6 := (hge _ hx).1
          rcases List.mem_cons.1 hxi with e2 | hxi
          · omega
          · exact ih (a + wLen ws[a]) (by omega) st2 h3 x i hx h0 h1 hxi
    · rw [startsW_end (by omega)] at h
      cases h
      exact absurd hx (by simp)
/-- a heap of words that stands for a graph, and where its cells begin -/
structure GoodW (F st : List Int) : Prop where
  nd : st.Pairwise (· < ·)
  len : F.length ≤ 1600
  whole : ∀ x ∈ st, ∃ a : Nat, x = (a : Int) ∧ a < F.length ∧ WholeAt F a
  inner : ∀ x i : Nat, (x : Int) ∈ st → 0 < i → i < wLen (opW F x) → ((x + i : Nat) : Int) ∉ st
  total : restW F st = F.length
  kids : ∀ a : Nat, (a : Int) ∈ st → ∀ x ∈ (cellW F a).kids, x ∈ st
theorem good_of {ws st : List Int} (h : startsW ws 0 = some st) (hl : ws.length ≤ 1600) (hg : graphB (graphW ws st) 6 = true) : GoodW ws st := by
  refine ⟨starts_sorted h, hl, fun x hx => ?_, startsW_inner ws _ 0 (Nat.le_refl _) st h, by have := startsW_total ws _ 0 (Nat.le_refl _) st h; omega, fun a ha x hx => ?_⟩
  · obtain ⟨a, e, h1, h2, h3⟩ := starts_cell h hx
    exact ⟨a, e, h1, by unfold WholeAt; rw [opW_at h1]; exact ⟨h2, h3⟩⟩
  · apply Classical.byContradiction
    intro hno
    obtain ⟨j, hj, e⟩ := List.getElem_of_mem ha
    have hi : idxI st x = -1 := idxI_none fun i hi e2 => hno (by rw [← e2]; exact List.getElem_mem hi)
    have := graph_miss hj e hx hi (defs := 6)
    rw [hg] at this; cases this
/-- what stays while cells are forwarded -/
structure CpI (F0 st F T : List Int) (scan : Nat) : Prop where
  lenF : F.length = F0.length
  out : ∀ y : Nat, (y : Int) ∉ st → opW F y = opW F0 y
  old : ∀ y : Nat, opW F y = opW F0 y ∨ (opW F y < 0 ∧ -1000000 ≤ opW F y)
  size : T.length + restW F st = F0.length
  le : scan ≤ T.length
  tail : ∃ bs : List Nat, (∀ a ∈ bs, (a : Int) ∈ st) ∧ T.drop scan = bs.flatMap (segW F0)
theorem restW_set {F : List Int} {a : Nat} {v : Int} (hv : v < 0) (ha : a < F.length) : ∀ (st : List Int), st.Pairwise (· < ·) → (∀ x ∈ st, 0 ≤ x) → restW (F.set a v) st + (if (a : Int) ∈ st then wLen (opW F a) else 0) = restW F st
  | [], _, _ => by simp [restW]
  | x :: st, hn, h0 => by
    have hx := h0 x (List.mem_cons_self ..)
    obtain ⟨hn1, hn2⟩ := List.pairwise_cons.1 hn
    have ih := restW_set hv ha st hn2 fun y hy => h0 y (List.mem_cons_of_mem _ hy)
    show wLen (opW (F.set a v) x.toNat) + restW (F.set a v) st + _ = wLen (opW F x.toNat) + restW F st
    by_cases e : (a : Int) = x
    · have hno : (a : Int) ∉ st := fun h => by have := hn1 _ h; omega
      rw [if_neg hno] at ih
      rw [if_pos (List.mem_cons.2 (Or.inl e))]
      have e2 : x.toNat = a := by omega
      rw [e2, opW_set, if_pos ⟨rfl, ha⟩, wLen_neg hv]
      omega
    · rw [opW_set, if_neg (by omega)]
      have e3 : ((a : Int) ∈ x :: st) = ((a : Int) ∈ st) := by rw [List.mem_cons]; simp [e]
      simp only [e3]
      omega
theorem CpI.start {F st : List Int} (h : GoodW F st) : CpI F st F [] 0 :=
  ⟨rfl, fun _ _ => rfl, fun _ => Or.inl rfl, by rw [h.total]; simp, Nat.le_refl _, [], by simp, rfl⟩
theorem CpI.lenT {F0 st F T : List Int} {scan : Nat} (h : CpI F0 st F T scan) (hg : GoodW F0 st) : T.length ≤ 1600 := by have := h.size; have := hg.len; omega
theorem CpI.can {F0 st F T : List Int} {scan : Nat} (h : CpI F0 st F T scan) (hg : GoodW F0 st) {x : Int} (hx : x ∈ st) : CanF F x := by
  obtain ⟨a, rfl, ha, hw⟩ := hg.whole x hx
  refine ⟨by omega, by rw [h.lenF]; omega, ?_⟩
  rw [Int.toNat_natCast]
  rcases h.old a with e | e
  · right
    unfold WholeAt at hw ⊢
    rw [e, h.lenF]; exact hw
  · exact Or.inl e
theorem CpI.seg {F0 st F T : List Int} {scan : Nat} (h : CpI F0 st F T scan) (hg : GoodW F0 st) {a : Nat} (ha : (a : Int) ∈ st) (hn : ¬ opW F a < 0) : opW F a = opW F0 a ∧ segW F a = segW F0 a := by
  have e : opW F a = opW F0 a := by rcases h.old a with e | e; exact e; exact absurd e.1 hn
  refine ⟨e, ?_⟩
  obtain ⟨b, hb, hbl, hw⟩ := hg.whole _ ha
  obtain rfl : a = b := by omega
  unfold segW
  rw [e]
  have hfit := hw.2
  have hlF := h.lenF
  apply List.ext_getElem
  · simp only [List.length_take, List.length_drop]; omega
  · intro i h1 h2
    simp only [List.length_take, List.length_drop] at h1 h2
    have hi : a + i < F.length := by omega
    have hi0 : a + i < F0.length := by omega
    rw [List.getElem_take, List.getElem_take, List.getElem_drop, List.getElem_drop, ← opW_at hi, ← opW_at hi0]
    by_cases h0 : i = 0
    · subst h0; exact e
    · exact h.out _ (hg.inner a i ha (by omega) (by omega))
theorem CpI.fwd {F0 st F T : List Int} {scan a : Nat} (h : CpI F0 st F T scan) (hg : GoodW F0 st) (ha : (a : Int) ∈ st) : CpI F0 st (fwd F T a).1 (fwd F T a).2.1 scan := by
  by_cases hn : opW F a < 0
  · rw [fwd_old hn]; exact h
  · rw [fwd_new hn]
    obtain ⟨b, hb, hbl, hw0⟩ := hg.whole _ ha
    obtain rfl : a = b := by omega
    obtain ⟨e1, e2⟩ := h.seg hg ha hn
    have hw : WholeAt F a := by unfold WholeAt at hw0 ⊢; rw [e1, h.lenF]; exact hw0
    have hT := h.lenT hg
    have haF : a < F.length := by rw [h.lenF]; exact hbl
    have hr := restW_set (v := -(T.length : Int) - 1) (by omega) haF st hg.nd (fun x hx => by obtain ⟨c, e, -⟩ := hg.whole x hx; omega)
    rw [if_pos ha] at hr
    obtain ⟨bs, hbs, htl⟩ := h.tail
    refine ⟨by simp only [List.length_set]; exact h.lenF, fun y hy => ?_, fun y => ?_, ?_, ?_, bs ++ [a], fun c hc => ?_, ?_⟩
    · show opW (F.set a _) y = _
      rw [opW_set, if_neg (fun he => hy (by rw [← he.1]; exact ha))]
      exact h.out y hy
    · show opW (F.set a _) y = _ ∨ (opW (F.set a _) y < 0 ∧ _)
      rw [opW_set]
      split
      · right; omega
      · exact h.old y
    · show (T ++ segW F a).length + restW (F.set a _) st = _
      have := h.size
      rw [List.length_append, segW_len hw]; omega
    · show scan ≤ (T ++ segW F a).length
      have := h.le
      rw [List.length_append]; omega
    · rcases List.mem_append.1 hc with hc | hc
      · exact hbs c hc
      · rw [List.mem_singleton.1 hc]; exact ha
    · show (T ++ segW F a).drop scan = _
      rw [List.drop_append_of_le_length h.le, htl, List.flatMap_append, e2]
      simp
theorem CpI.setT {F0 st F T : List Int} {scan p : Nat} {v : Int} (h : CpI F0 st F T scan) (hp : p < scan) : CpI F0 st F (T.set p v) scan := by
  obtain ⟨bs, hbs, htl⟩ := h.tail
  refine ⟨h.lenF, h.out, h.old, by rw [List.length_set]; exact h.size, by rw [List.length_set]; exact h.le, bs, hbs, ?_⟩
  rw [← htl, List.drop_set_of_lt hp]
/-- the next cell of the new heap -/
theorem CpI.next {F0 st F T : List Int} {scan : Nat} (h : CpI F0 st F T scan) (hg : GoodW F0 st) (hs : scan < T.length) :
    WholeAt T scan ∧ CpI F0 st F T (scan + wLen (opW T scan)) ∧ ∀ i, 1 ≤ i → i < kidsN7 (opW T scan) + 1 → opW T (scan + i) ∈ st := by
  obtain ⟨bs, hbs, htl⟩ := h.tail
  cases bs with
  | nil =>
    have h1 := congrArg List.length htl
    rw [List.length_drop] at h1
    simp at h1; omega
  | cons a bs =>
    have ha := hbs a (List.mem_cons_self ..)
    obtain ⟨b, hb, hbl, hw⟩ := hg.whole _ ha
    obtain rfl : a = b := by omega
    have hsl := segW_len hw
    rw [List.flatMap_cons] at htl
    have hlen := congrArg List.length htl
    rw [List.length_drop, List.length_append, hsl] at hlen
    have key : ∀ i, i < wLen (opW F0 a) → opW T (scan + i) = opW F0 (a + i) := fun i hi => by
      have h1 : (T.drop scan)[i]? = (segW F0 a ++ bs.flatMap (segW F0))[i]? := by rw [htl]
      rw [List.getElem?_drop, List.getElem?_append_left (by omega)] at h1
      unfold opW
      rw [List.getD_eq_getElem?_getD, h1, List.getD_eq_getElem?_getD]
      unfold segW
      rw [List.getElem?_take_of_lt hi, List.getElem?_drop]
    have hpos := wLen_pos hw.1
    have e0 : opW T scan = opW F0 a := key 0 (by omega)
    rw [e0]
    have hwT : WholeAt T scan := by unfold WholeAt; rw [e0]; exact ⟨hw.1, by omega⟩
    refine ⟨hwT, ⟨h.lenF, h.out, h.old, h.size, by omega, bs, fun c hc => hbs c (List.mem_cons_of_mem _ hc), ?_⟩, fun i h1 h2 => ?_⟩
    · rw [← List.drop_drop, htl, ← hsl, List.drop_left]
    · have hk := kidsAt_cell hw
      have hkn := kidsN7_lt hw.1
      rw [key i (by omega)]
      have h3 := hk.2 (i - 1) (by omega)
      rw [show i - 1 + 1 = i by omega] at h3
      rw [← h3]
      have hlt : i - 1 < (cellW F0 a).kids.length := by rw [hk.1]; omega
      rw [opW_at hlt]
      exact hg.kids a ha _ (List.getElem_mem hlt)
theorem CpI.scan {F0 st F T : List Int} {scan : Nat} (h : CpI F0 st F T scan) (hg : GoodW F0 st) (hs : scan < T.length) :
    WholeAt T scan ∧ FitsF F T scan (kidsN7 (opW T scan) + 1) ∧ CpI F0 st (scanC F T scan).1 (scanC F T scan).2 (scan + wLen (opW T scan)) := by
  obtain ⟨hw, hi, hk⟩ := h.next hg hs
  have hfit : FitsF F T scan (kidsN7 (opW T scan) + 1) := fun i h1 h2 => h.can hg (hk i h1 h2)
  have hkn := kidsN7_lt hw.1
  have hT := h.lenT hg
  have hw2 := hw.2
  refine ⟨hw, hfit, ?_⟩
  have key : ∀ k, k ≤ kidsN7 (opW T scan) → CpI F0 st (scanN F T scan k).1 (scanN F T scan k).2 (scan + wLen (opW T scan)) := by
    intro k
    induction k with
    | zero => intro _; exact hi
    | succ k ih =>
      intro hlt
      have h1 := ih (by omega)
      have hsi := scanN_inv hfit (by omega) (by omega) (by omega) k (by omega)
      have hre := hsi.rest (k + 1) (by omega) (by omega)
      have hx := hk (k + 1) (by omega) (by omega)
      show CpI F0 st (scanS scan (k + 1) (scanN F T scan k)).1 (scanS scan (k + 1) (scanN F T scan k)).2 _
      unfold scanS
      rw [hre]
      obtain ⟨a, e, -, -⟩ := hg.whole _ hx
      rw [e] at hx ⊢
      rw [Int.toNat_natCast]
      exact (h1.fwd hg hx).setT (by omega)
  exact key _ (Nat.le_refl _)
end Go.Proofs.Ytiipcgnkfhjpeaa
/-
  PLAIN FACTS ON COPYING WORDS: the answer of CopyWords. No program is named here.
-/
namespace Go.Proofs.Ytiipcgnkfhjpeaa
set_option linter.unusedVariables false
set_option linter.unusedSimpArgs false

/-- the next cell is scanned, if there is one -/
def cpStep (s : List Int × List Int × Nat) : List Int × List Int × Nat := if s.2.2 < s.2.1.length then ((scanC s.1 s.2.1 s.2.2).1, (scanC s.1 s.2.1 s.2.2).2, s.2.2 + wLen (opW s.2.1 s.2.2)) else s
def cpIt (s : List Int × List Int × Nat) : Nat → List Int × List Int × Nat
  | 0 => s
  | n + 1 => cpStep (cpIt s n)
theorem cpStep_inv {F0 st : List Int} {s : List Int × List Int × Nat} (hg : GoodW F0 st) (h : CpI F0 st s.1 s.2.1 s.2.2) : CpI F0 st (cpStep s).1 (cpStep s).2.1 (cpStep s).2.2 := by
  unfold cpStep
  split
  · exact (h.scan hg (by assumption)).2.2
  · exact h
theorem cpIt_inv {F0 st : List Int} {s : List Int × List Int × Nat} (hg : GoodW F0 st) (h : CpI F0 st s.1 s.2.1 s.2.2) : ∀ n, CpI F0 st (cpIt s n).1 (cpIt s n).2.1 (cpIt s n).2.2
  | 0 => h
  | n + 1 => cpStep_inv hg (cpIt_inv hg h n)
theorem cpIt_stop {s : List Int × List Int × Nat} {n : Nat} (h : ¬ (cpIt s n).2.2 < (cpIt s n).2.1.length) : ∀ d, cpIt s (n + d) = cpIt s n
  | 0 => rfl
  | d + 1 => by
    show cpStep (cpIt s (n + d)) = _
    rw [cpIt_stop h d]
    unfold cpStep
    rw [if_neg h]
theorem cpIt_end {F0 st : List Int} {s : List Int × List Int × Nat} {n : Nat} (hg : GoodW F0 st) (h : CpI F0 st s.1 s.2.1 s.2.2) (hn : n ≤ (cpIt s n).2.2) (hs : ¬ (cpIt s n).2.2 < (cpIt s n).2.1.length) : cpIt s s.1.length = cpIt s n := by
  have hi := cpIt_inv hg h n
  have h1 := hi.le
  have h2 := hi.size
  have h4 := h.lenF
  have h3 := cpIt_stop hs (s.1.length - n)
  rw [show n + (s.1.length - n) = s.1.length by omega] at h3
  exact h3
theorem cpIt_next {s : List Int × List Int × Nat} {n : Nat} (hs : (cpIt s n).2.2 < (cpIt s n).2.1.length) : cpIt s (n + 1) = ((scanC (cpIt s n).1 (cpIt s n).2.1 (cpIt s n).2.2).1, (scanC (cpIt s n).1 (cpIt s n).2.1 (cpIt s n).2.2).2, (cpIt s n).2.2 + wLen (opW (cpIt s n).2.1 (cpIt s n).2.2)) := by
  show cpStep (cpIt s n) = _
  unfold cpStep
  rw [if_pos hs]
def cpLast (s : List Int × List Int × Nat) : List Int × List Int × Nat := cpIt s s.1.length
theorem cpLast_end {F0 st : List Int} {s : List Int × List Int × Nat} {n : Nat} (hg : GoodW F0 st) (h : CpI F0 st s.1 s.2.1 s.2.2) (hn : n ≤ (cpIt s n).2.2) (hs : ¬ (cpIt s n).2.2 < (cpIt s n).2.1.length) : cpLast s = cpIt s n := by
  unfold cpLast; exact cpIt_end hg h hn hs
theorem cpLast_inv {F0 st : List Int} {s : List Int × List Int × Nat} (hg : GoodW F0 st) (h : CpI F0 st s.1 s.2.1 s.2.2) : CpI F0 st (cpLast s).1 (cpLast s).2.1 (cpLast s).2.2 := by
  unfold cpLast; exact cpIt_inv hg h _
/-- the roots are forwarded -/
def tpN (F r : List Int) : Nat → List Int × List Int × List Int
  | 0 => (F, [], [])
  | k + 1 => ((fwd (tpN F r k).1 (tpN F r k).2.1 (opW r k).toNat).1, (fwd (tpN F r k).1 (tpN F r k).2.1 (opW r k).toNat).2.1, (tpN F r k).2.2 ++ [(fwd (tpN F r k).1 (tpN F r k).2.1 (opW r k).toNat).2.2])
theorem tpN_len (F r : List Int) : ∀ k, (tpN F r k).2.2.length = k
  | 0 => rfl
  | k + 1 => by show (List.length (_ ++ [_])) = _; rw [List.length_append, tpN_len F r k]; rfl
theorem root_at {F st r : List Int} (hg : GoodW F st) (hr : ∀ x ∈ r, x ∈ st) {k : Nat} (hk : k < r.length) : ∃ a : Nat, opW r k = (a : Int) ∧ (a : Int) ∈ st ∧ r[k] = (a : Int) := by
  have h1 := hr _ (List.getElem_mem hk)
  obtain ⟨a, e, -, -⟩ := hg.whole _ h1
  exact ⟨a, by rw [opW_at hk, e], by rw [← e]; exact h1, e⟩
theorem tpN_inv {F st r : List Int} (hg : GoodW F st) (hr : ∀ x ∈ r, x ∈ st) : ∀ k, k ≤ r.length → CpI F st (tpN F r k).1 (tpN F r k).2.1 0
  | 0, _ => CpI.start hg
  | k + 1, h => by
    obtain ⟨a, e, ha, -⟩ := root_at hg hr (show k < r.length by omega)
    show CpI F st (fwd (tpN F r k).1 (tpN F r k).2.1 (opW r k).toNat).1 (fwd (tpN F r k).1 (tpN F r k).2.1 (opW r k).toNat).2.1 0
    rw [e, Int.toNat_natCast]
    exact (tpN_inv hg hr k (by omega)).fwd hg ha
theorem tpN_next {F st r : List Int} {k a : Nat} (e : opW r k = (a : Int)) : tpN F r (k + 1) = ((fwd (tpN F r k).1 (tpN F r k).2.1 a).1, (fwd (tpN F r k).1 (tpN F r k).2.1 a).2.1, (tpN F r k).2.2 ++ [(fwd (tpN F r k).1 (tpN F r k).2.1 a).2.2]) := by
  show (_, _, _) = _
  rw [e, Int.toNat_natCast]
/-- the roots, the first ones replaced -/
def topL (F r : List Int) (k : Nat) : List Int := (tpN F r k).2.2 ++ r.drop k
theorem topL_len {F r : List Int} {k : Nat} (h : k ≤ r.length) : (topL F r k).length = r.length := by unfold topL; rw [List.length_append, tpN_len, List.length_drop]; omega
theorem topL_at {F r : List Int} {k : Nat} (h : k < r.length) : opW (topL F r k) k = opW r k := by
  unfold opW topL
  rw [List.getD_eq_getElem?_getD, List.getD_eq_getElem?_getD, List.getElem?_append_right (by rw [tpN_len]; omega), tpN_len, Nat.sub_self, List.getElem?_drop, Nat.add_zero]
theorem topL_next {F r : List Int} {k a : Nat} (h : k < r.length) (e : opW r k = (a : Int)) : topL F r (k + 1) = (topL F r k).set k (fwd (tpN F r k).1 (tpN F r k).2.1 a).2.2 := by
  unfold topL
  rw [tpN_next (st := []) e]
  have hl := tpN_len F r k
  obtain ⟨v, hv⟩ : ∃ v, v = (fwd (tpN F r k).1 (tpN F r k).2.1 a).2.2 := ⟨_, rfl⟩
  simp only [← hv]
  generalize (tpN F r k).2.2 = s at *
  apply List.ext_getElem?
  intro i
  rw [List.drop_eq_getElem_cons h, List.getElem?_set, List.append_assoc]
  by_cases h1 : i < k
  · rw [if_neg (by omega), List.getElem?_append_left (by omega), List.getElem?_append_left (by omega)]
  · rw [List.getElem?_append_right (by omega), hl]
    by_cases h2 : i = k
    · subst h2
      rw [if_pos rfl, if_pos (by rw [List.length_append, List.length_cons]; omega), Nat.sub_self]; rfl
    · rw [if_neg (fun h => h2 h.symm), List.getElem?_append_right (l₁ := s) (by omega), hl]
      obtain ⟨d, hd⟩ : ∃ d, i - k = d + 1 := ⟨i - k - 1, by omega⟩
      rw [hd]; rfl
theorem topL_all (F r : List Int) : topL F r r.length = (tpN F r r.length).2.2 := by unfold topL; rw [List.drop_length, List.append_nil]
/-- can it be copied? -/
def canC (ws r : List Int) : Bool := (unpO ws).2.2 && decide (r.length ≤ 20) && r.all fun x => decide (x ∈ (unpO ws).2.1)
/-- the answer of CopyWords -/
def copyO (ws r : List Int) : List Int × List Int × Bool := if canC ws r = true then ((cpLast ((tpN ws r r.length).1, (tpN ws r r.length).2.1, 0)).2.1, (tpN ws r r.length).2.2, true) else ([], [], false)
theorem copyO_no {ws r : List Int} (h : canC ws r = false) : copyO ws r = ([], [], false) := by unfold copyO; rw [if_neg (by rw [h]; simp)]
theorem copyO_yes {ws r : List Int} (h : canC ws r = true) : copyO ws r = ((cpLast ((tpN ws r r.length).1, (tpN ws r r.length).2.1, 0)).2.1, (tpN ws r r.length).2.2, true) := by unfold copyO; rw [if_pos h]
theorem unp_good {ws : List Int} (h : (unpO ws).2.2 = true) : GoodW ws (unpO ws).2.1 := by
  by_cases hl : ws.length ≤ 1600
  · cases hs : startsW ws 0 with
    | none => rw [unpO_none hs] at h; cases h
    | some st =>
      cases hg : graphB (graphW ws st) 6 with
      | false => rw [unpO_bad hs hg] at h; cases h
      | true => rw [unpO_yes hl hs hg]; exact good_of hs hl hg
  · rw [unpO_long hl] at h; cases h
theorem canC_bad {ws r : List Int} (h : (unpO ws).2.2 = false) : canC ws r = false := by unfold canC; rw [h]; rfl
theorem canC_long {ws r : List Int} (h : ¬ r.length ≤ 20) : canC ws r = false := by unfold canC; rw [decide_eq_false h, Bool.and_false]; rfl
theorem canC_miss {ws r : List Int} {x : Int} (hx : x ∈ r) (h : x ∉ (unpO ws).2.1) : canC ws r = false := by
  unfold canC
  have : (r.all fun x => decide (x ∈ (unpO ws).2.1)) = false := by
    rw [List.all_eq_false]
    exact ⟨x, hx, by rw [decide_eq_false h]; simp⟩
  rw [this, Bool.and_false]
theorem canC_all {ws r : List Int} (h : (unpO ws).2.2 = true) (hl : r.length ≤ 20) (hr : ∀ x ∈ r, x ∈ (unpO ws).2.1) : canC ws r = true := by
  unfold canC
  rw [h, decide_eq_true hl, Bool.true_and, Bool.true_and, List.all_eq_true]
  exact fun x hx => decide_eq_true (hr x hx)
theorem canC_yes {ws r : List Int} (h : canC ws r = true) : (unpO ws).2.2 = true ∧ r.length ≤ 20 ∧ ∀ x ∈ r, x ∈ (unpO ws).2.1 := by
  unfold canC at h
  rw [Bool.and_eq_true, Bool.and_eq_true, List.all_eq_true] at h
  exact ⟨h.1.1, of_decide_eq_true h.1.2, fun x hx => of_decide_eq_true (h.2 x hx)⟩
theorem copyO_small (ws r : List Int) : (copyO ws r).1.length ≤ 4000 ∧ (copyO ws r).2.1.length ≤ 4000 := by
  cases h : canC ws r with
  | false => rw [copyO_no h]; simp
  | true =>
    obtain ⟨h1, h2, h3⟩ := canC_yes h
    have hg := unp_good h1
    rw [copyO_yes h]
    have hi := cpLast_inv (s := ((tpN ws r r.length).1, (tpN ws r r.length).2.1, 0)) hg (tpN_inv hg h3 _ (Nat.le_refl _))
    have h4 := hi.lenT hg
    have h5 := tpN_len ws r r.length
    show (cpLast _).2.1.length ≤ 4000 ∧ (tpN ws r r.length).2.2.length ≤ 4000
    omega
end Go.Proofs.Ytiipcgnkfhjpeaa
/-
  AN APPEND TO A SLICE THAT IS NOT nil: the answer is not nil.
-/
namespace Go.Proofs.Ytiipcgnkfhjpeaa
set_option linter.unusedVariables false
set_option linter.unusedSimpArgs false
open Go.RowKit

theorem stki_some {w : World} {lo : Nat} {xs : List Int} {v : Value} (h : StkI w lo xs v) (hv : v ≠ .slice none 0 0) : ∃ g cap, v = .slice (some ⟨g, 0, none⟩) xs.length cap ∧ lo ≤ g ∧ g < w.heap.size := by
  rcases h.2 with ⟨h', _⟩ | ⟨g, cap, cur, h', hg, hh, -⟩
  · exact absurd h' hv
  · exact ⟨g, cap, h', hg, (Array.getElem?_eq_some_iff.1 hh).1⟩
theorem run_pushS (w : World) (lo : Nat) (xs news : List Int) (v x : Value) (ty : TypeId) (hst : StkI w lo xs v) (hx : IIn w news x) (hlo : lo ≤ w.heap.size) (hb : xs.length + news.length ≤ 1048576) (hv : v ≠ .slice none 0 0) :
    ∃ v' w', (Builtin.append_ #[24, 24] ty #[v, x]).run Try.prog w = .ok v' w' ∧ StkI w' lo (xs ++ news) v' ∧ w.grownBy w' v.ownBlock ∧ v' ≠ .slice none 0 0 := by
  obtain ⟨i, z, hi, hz, hs, hby, hzs⟩ := infoI1
  have hx2 := hx
  obtain ⟨ad, cap, rfl, -, -, hr⟩ := hx2
  rcases ad with _ | ad
  · have hnil : news = [] := by
      rcases hr with h | ⟨_, _, h, -⟩
      · exact h
      · simp at h
    subst hnil
    refine ⟨v, w, ?_, by simpa using hst, ⟨rfl, rfl, rfl, Nat.le_refl _, fun _ _ _ => rfl⟩, hv⟩
    rcases hst.2 with ⟨rfl, h0⟩ | ⟨g, cap, cur, rfl, _, _, hnc, _⟩
    · simp [Builtin.append_, run_underlying Try.underlying24, sizeOf, typeInfo, hi, Builtin.lenOf, Builtin.firstCells]
    · simp [Builtin.append_, run_underlying Try.underlying24, sizeOf, typeInfo, hi, Builtin.lenOf, Builtin.firstCells, hnc, storeCells]
  · obtain ⟨v', w', hrun, hown, hg, hn⟩ := run_append_own (P := Try.prog) w lo 24 ty 3 i z 1 8 Try.underlying24 hi hz hs hby hzs (by decide) v xs.length (inV xs) hst ad news.length cap (inV news) (by rw [inV_length, Nat.mul_one]) (ints_newsI hx) (inV_one _) (by unfold maxLen; omega) (by omega) hlo
    refine ⟨v', w', hrun, ?_, hg, fun e => hv (hn.1 e).1⟩
    unfold StkI
    rw [inV_append, List.length_append]
    exact hown
theorem wpList_pushS {ops : Array Oper} {rest : List Oper} {o : Oper} {a : Act} {Q : Exit → Act → World → Prop} (hgd : o.guard = none) (s x : Operand)
    (ho : o.op = .call { callee := .builtin .append, args := #[s, x], argTypes := #[24, 24] })
    (w : World) (lo : Nat) (xs news : List Int) (v xv : Value) (hs : a.eval s = v) (hst : StkI w lo xs v) (hxe : a.eval x = xv) (hx : IIn w news xv) (hlo : lo ≤ w.heap.size) (hb : xs.length + news.length ≤ 1048576) (hv : v ≠ .slice none 0 0)
    (h : ∀ v' w', StkI w' lo (xs ++ news) v' → w.grownBy w' v.ownBlock → v' ≠ .slice none 0 0 → wpList Try.prog ops Q rest (a.put o.dst v') w') : wpList Try.prog ops Q (o :: rest) a w := by
  refine wpList_plain hgd fun K hK => ?_
  obtain ⟨v', w', hrun, h2, h3, h4⟩ := run_pushS w lo xs news v xv o.type hst hx hlo hb hv
  unfold Oper.wp
  simp [execOp, ho, resolve, invoke, builtin, hs, hxe, hrun, Result.andThen]
  exact hK _ _ (h v' w' h2 h3 h4)
end Go.Proofs.Ytiipcgnkfhjpeaa
