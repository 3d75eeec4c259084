/-
  THE MODEL's CopyWords.
-/
import Derived.Test.YtiipcgnkfhjpeaaMgExactCopyWords3
import Derived.Test.YtiipcgnkfhjpeaaMgExactCopyWords5
import Derived.Test.YtiipcgnkfhjpeaaMgExactCopyWords1
import Derived.Test.YtiipcgnkfhjpeaaMgExactCopyWords2
import Derived.IntWalk
import Derived.WalkSpells
import Derived.Test.YtiipcgnkfhjpeaaProg
import Derived.Deep.RegionWith
import Derived.Deep.DeepMust
import Derived.Deep.QuietTactic
import Derived.BigQuiet
namespace Go.Proofs.Ytiipcgnkfhjpeaa
set_option linter.unusedVariables false
set_option linter.unusedSimpArgs false
open Go.RowKit


/-- two lists of numbers and whether -/
def GotPackC (r : List Int × List Int × Bool) (w : World) (e : Ending) (w' : World) : Prop := ∃ a t, e = .returned (.tuple #[a, t, .bool r.2.2]) ∧ IIn w' r.1 a ∧ IIn w' r.2.1 t ∧ Below w.heap.size w w'
theorem stki_own {w w' : World} {lo : Nat} {xs : List Int} {v : Value} (h : StkI w lo xs v) (hb : ∀ k, v.ownBlock = some k → w'.heap[k]? = w.heap[k]?) : StkI w' lo xs v := by
  refine ⟨h.1, ?_⟩
  rcases h.2 with h' | ⟨g, cap, cur, rfl, hg, hh, r⟩
  · exact Or.inl h'
  · exact Or.inr ⟨g, cap, cur, rfl, hg, (hb g (by simp [Value.ownBlock])).trans hh, r⟩
theorem stki_lt {w : World} {lo k : Nat} {xs : List Int} {v : Value} (h : StkI w lo xs v) (hk : v.ownBlock = some k) : lo ≤ k ∧ k < w.heap.size := World.ownsRow.lt h k hk
/-- the two heaps and the new addresses of the roots, each in rows of its own -/
structure CpR (w0 w : World) (lo m fb n capf : Nat) (F T tops : List Int) (tv sv : Value) : Prop where
  ft : FTm w lo m fb n capf F T tv
  tp : StkI w m tops sv
  ap : ∀ k, tv.ownBlock = some k → sv.ownBlock ≠ some k
  base : Below w0.heap.size w0 w
  lof : w0.heap.size ≤ fb
theorem CpR.fwd {w0 w w' : World} {lo m fb n capf : Nat} {F T F' T' tops : List Int} {tv sv tv' : Value} (h : CpR w0 w lo m fb n capf F T tops tv sv) (hf : FTm w' lo m fb n capf F' T' tv') (hm : KeepM m fb w w') (ha : KeepA fb tv tv' w w') : CpR w0 w' lo m fb n capf F' T' tops tv' sv := by
  have hfb := h.ft.fbm
  have hlf := h.lof
  refine ⟨hf, stki_own h.tp fun k hk => ?_, fun k hk => ?_, ⟨hm.os.trans h.base.os, hm.tape.trans h.base.tape, hm.output.trans h.base.output, Nat.le_trans h.base.size hm.size, fun k hk => (hm.block k (by omega) (by omega)).trans (h.base.block k hk)⟩, hlf⟩
  · have h1 := stki_lt h.tp hk
    exact ha.block k h1.2 (by omega) fun e => h.ap k e.symm hk
  · rcases ha.own with h1 | ⟨j, h1, h2⟩
    · exact h.ap k (h1.symm.trans hk)
    · rw [h1] at hk
      have hj := Option.some.inj hk
      intro h3
      have := (stki_lt h.tp h3).2
      omega
theorem CpR.push {w0 w w' : World} {lo m fb n capf : Nat} {F T tops tops' : List Int} {tv sv sv' : Value} {o : Obj} (h : CpR w0 w lo m fb n capf F T tops tv sv) (hs : StkI w' m tops' sv') (hg : (w.alloc o).grownBy w' sv.ownBlock) (ho : sv'.ownBlock = sv.ownBlock ∨ sv'.ownBlock = some (w.alloc o).heap.size) : CpR w0 w' lo m fb n capf F T tops' tv sv' := by
  have hfb := h.ft.fbm
  have hlf := h.lof
  have hsz := h.ft.sz
  have hbs := h.base.size
  have hal : (w.alloc o).heap.size = w.heap.size + 1 := Deep.nblk_alloc _ _
  have hgs := hg.size
  have key : ∀ k, k < w.heap.size → sv.ownBlock ≠ some k → w'.heap[k]? = w.heap[k]? := fun k hk hne => (hg.block k (by omega) (fun e => hne e.symm)).trans (Deep.blk_alloc_lt _ _ _ hk)
  have hlow : ∀ k, k < m → sv.ownBlock ≠ some k := fun k hk e => by have := (stki_lt h.tp e).1; omega
  refine ⟨⟨stki_blk h.ft.old (key fb (by omega) (hlow fb hfb)), stki_own h.ft.new fun k hk => ?_, hfb, by omega⟩, hs, fun k hk => ?_, ⟨hg.os.trans h.base.os, hg.tape.trans h.base.tape, hg.output.trans h.base.output, by omega, fun k hk => (key k (by omega) (hlow k (by omega))).trans (h.base.block k hk)⟩, hlf⟩
  · exact key k (stki_lt h.ft.new hk).2 (h.ap k hk)
  · rcases ho with h1 | h1
    · rw [h1]; exact h.ap k hk
    · rw [h1]
      have := (stki_lt h.ft.new hk).2
      intro e
      have := Option.some.inj e; omega
set_option maxRecDepth 100000 in
set_option maxHeartbeats 3200000 in
theorem specCopyW_calls (ws r : List Int) (v rv : Value) (w : World) (hk : IIn w ws v) (hr : IIn w r rv) (hw : ∀ y ∈ ws, I64 y) (hl : ws.length ≤ 1048576) (hl2 : r.length ≤ 1048576) :
    Calls Try.prog 22 #[v, rv] w (GotPackC (copyO ws r) w) := by
  have HK := mkHid hk
  have HR := mkHid hr
  obtain ⟨ada, capa, rfl, -, -, -⟩ := hk
  obtain ⟨adr, capr, rfl, hcr, hmr, -⟩ := hr
  unfold maxLen at hmr
  have HNIL : Hid (∀ W, Below w.heap.size w W → canC ws r = false → GotPackC (copyO ws r) w (.returned (.tuple #[.slice (some ⟨W.heap.size, 0, none⟩) 0 0, .slice (some ⟨W.heap.size + 1, 0, none⟩) 0 0, .bool false])) ((W.alloc (.cells #[] 3)).alloc (.cells #[] 3))) := fun W hb h => by
    rw [copyO_no h]
    exact ⟨_, _, rfl, (no_ints _ 0 _ _ (by simp [maxLen])).inn, (no_ints _ 0 _ _ (by simp [maxLen])).inn, (hb.alloc hb.size _).alloc (by rw [Deep.nblk_alloc]; have := hb.size; omega) _⟩
  go_enter Try.func22, Try.ntmps22
  go_wp2_with fail
  refine (l7Unpack_calls ws _ w HK.out hw hl).mono ?_
  rintro e w2 ⟨gv, sv, rfl, -, hsv, hb2⟩
  have HB2 := mkHid hb2
  have HSV := mkHid hsv
  clear hsv hb2 hw
  cases hu : (unpO ws).2.2 with
  | false =>
    have HV := mkHid (canC_bad (r := r) hu)
    clear hu
    go_wp2_with fail
    refine bodyPost_ret (v := .tuple #[.slice (some ⟨w2.heap.size, 0, none⟩) 0 0, .slice (some ⟨w2.heap.size + 1, 0, none⟩) 0 0, .bool false]) (by simp [results, Try.results22, go_sem]) rfl ?_
    exact HNIL.out w2 HB2.out HV.out
  | true =>
    have HG := mkHid (unp_good hu)
    have HU := mkHid hu
    by_cases h20 : r.length ≤ 20
    case neg =>
      have HV := mkHid (canC_long (ws := ws) h20)
      have hb : (20 : Int) < (r.length : Int) := by omega
      clear h20 hu
      go_wp2_with fail
      refine bodyPost_ret (v := .tuple #[.slice (some ⟨w2.heap.size, 0, none⟩) 0 0, .slice (some ⟨w2.heap.size + 1, 0, none⟩) 0 0, .bool false]) (by simp [results, Try.results22, go_sem]) rfl ?_
      exact HNIL.out w2 HB2.out HV.out
    have HC0 : Hid (∀ x ∈ r, x ∉ (unpO ws).2.1 → canC ws r = false) := fun x hx h => canC_miss hx h
    have HC1 : Hid ((∀ x ∈ r, x ∈ (unpO ws).2.1) → copyO ws r = ((cpLast ((tpN ws r r.length).1, (tpN ws r r.length).2.1, 0)).2.1, (tpN ws r r.length).2.2, true)) := fun h => copyO_yes (canC_all HU.out h20 h)
    obtain ⟨st, hst⟩ : ∃ st, st = (unpO ws).2.1 := ⟨_, rfl⟩
    rw [← hst] at HG HC0 HC1 HSV
    have hstl : st.length ≤ 1048576 := by
      rw [hst]
      by_cases hb : ws.length ≤ 1600
      · cases hs : startsW ws 0 with
        | none => rw [unpO_none hs]; simp
        | some s1 =>
          have h3 := starts_small hs
          cases hgg : graphB (graphW ws s1) 6 with
          | false => rw [unpO_bad hs hgg]; simp
          | true => rw [unpO_yes hb hs hgg]; show s1.length ≤ _; omega
      · rw [unpO_long hb]; simp
    have hw16 : ws.length ≤ 1600 := HG.out.len
    clear hst hu HU
    go_wp2_with fail
    go_loopw [10] (fun a wr => ∃ q : Nat, a = .int .i64 q ∧ q ≤ r.length ∧ (∀ x ∈ r.take q, x ∈ st) ∧ w2 = wr) (fun a _ => r.length - (intOf a).toNat)
    case atStart => exact ⟨0, rfl, Nat.zero_le _, by simp, rfl⟩
    case round =>
      obtain ⟨q, rfl, hq, hall, rfl⟩ := hrel
      have HAL := mkHid hall
      by_cases hlt : q < r.length
      · obtain ⟨bl, off, rfl, d0⟩ := (HR.out.next HB2.out).at q hlt
        obtain ⟨x, hx⟩ : ∃ x, x = r[q] := ⟨_, rfl⟩
        have HXM : Hid (x ∈ r) := by rw [hx]; exact List.getElem_mem hlt
        have HNX : Hid (x ∈ st → ∀ y ∈ r.take (q + 1), y ∈ st) := fun h y hy => by
          rw [List.take_succ_eq_append_getElem hlt, List.mem_append, List.mem_singleton] at hy
          rcases hy with hy | hy
          · exact HAL.out y hy
          · rw [hy, ← hx]; exact h
        rw [← hx] at d0
        clear hall hx
        go_wp2_with fail
        refine (l7Index_calls st x sv w2 HSV.out HG.out.nd hstl).mono ?_
        rintro e w3 ⟨rfl, rfl⟩
        by_cases h0 : 0 ≤ idxI st x
        · have HP := mkHid (HNX.out (idxI_mem.1 h0))
          generalize idxI st x = ix at *
          clear d0
          go_wp2_with fail
          go_roundw
          case rel => first | exact ⟨q + 1, by go_num, by omega, HP.out, trivial⟩ | exact ⟨q + 1, by go_num, by omega, HP.out, rfl⟩
          case measure => simp [intOf]; omega
        · have HV := mkHid (HC0.out x HXM.out fun h => h0 (idxI_mem.2 h))
          generalize idxI st x = ix at *
          clear d0
          go_wp2_with fail
          refine bodyPost_ret (v := .tuple #[.slice (some ⟨w2.heap.size, 0, none⟩) 0 0, .slice (some ⟨w2.heap.size + 1, 0, none⟩) 0 0, .bool false]) (by simp [results, Try.results22, go_sem]) rfl ?_
          exact HNIL.out w2 HB2.out HV.out
      · have hqe : q = r.length := by omega
        have HM : Hid (∀ x ∈ r, x ∈ st) := by have h := HAL.out; rw [hqe, List.take_length] at h; exact h
        have HV := mkHid (HC1.out HM.out)
        clear hall hqe
        have A1 : Hid (StkI (w2.alloc (.cells #[] 3)) w2.heap.size [] (.slice (some ⟨w2.heap.size, 0, none⟩) 0 0)) := StkI.nil _ _ (Nat.le_refl _)
        have K1 : Hid (IIn (w2.alloc (.cells #[] 3)) ws (.slice ada ws.length capa)) := (HK.out.next HB2.out).next (box_below _ _)
        have L1 : Hid (w2.heap.size ≤ (w2.alloc (.cells #[] 3)).heap.size) := by rw [Hid, Deep.nblk_alloc]; omega
        go_wp2_with (have tk := A1; clear tk; at_builtin; go_must (refine wpList_pushS rfl _ _ rfl _ w2.heap.size [] ws (.slice (some ⟨w2.heap.size, 0, none⟩) 0 0) (.slice ada ws.length capa) rfl A1.out rfl K1.out L1.out (by simp; omega) (by simp) ?_); go_must (intro v5 w5 hst5 hg5 hv5); go_must (have HB5 : Hid (Below w.heap.size w w5) := ⟨hg5.os.trans HB2.out.os, hg5.tape.trans HB2.out.tape, hg5.output.trans HB2.out.output, Nat.le_trans HB2.out.size (Nat.le_trans (by rw [Deep.nblk_alloc]; omega) hg5.size), fun k hk => (StkI.far A1.out hg5 (by rw [Deep.nblk_alloc]; have := HB2.out.size; omega) (by have := HB2.out.size; omega)).trans ((Deep.blk_alloc_lt _ _ _ (by have := HB2.out.size; omega)).trans (HB2.out.block k hk))⟩); go_must (obtain ⟨fb, cpf, rfl, hfb1, hfb2⟩ := stki_some hst5 hv5); go_must (have HO5 : Hid (StkI w5 w2.heap.size ws (.slice (some ⟨fb, 0, none⟩) ws.length cpf)) := hst5); go_must (have HFB : Hid (w2.heap.size ≤ fb ∧ fb < w5.heap.size) := ⟨hfb1, hfb2⟩); clear hst5 hg5 hv5 hfb1 hfb2)
        have HR0 : Hid (CpR w ((w5.alloc (.cells #[] 3)).alloc (.cells #[] 3)) w2.heap.size w5.heap.size fb ws.length cpf ws [] [] (.slice (some ⟨w5.heap.size, 0, none⟩) 0 0) (.slice (some ⟨(w5.alloc (.cells #[] 3)).heap.size, 0, none⟩) 0 0)) := by
          have h1 := HFB.out
          have h2 : (w5.alloc (.cells #[] 3)).heap.size = w5.heap.size + 1 := Deep.nblk_alloc _ _
          refine ⟨⟨stki_blk HO5.out ((Deep.blk_alloc_lt _ _ _ (by omega)).trans (Deep.blk_alloc_lt _ _ _ h1.2)), (StkI.nil w5 _ (Nat.le_refl _)).alloc _, h1.2, by rw [Deep.nblk_alloc]; omega⟩, StkI.nil _ _ (by omega), fun k hk => ?_, (HB5.out.alloc HB5.out.size _).alloc (by have := HB5.out.size; omega) _, Nat.le_trans HB2.out.size h1.1⟩
          simp only [Value.ownBlock, Option.some.injEq, ne_eq] at hk ⊢
          omega
        rw [Deep.nblk_alloc] at HR0
        generalize (w5.alloc (.cells #[] 3)).alloc (.cells #[] 3) = w7 at HR0 ⊢
        generalize (.slice (some ⟨w5.heap.size, 0, none⟩) 0 0 : Value) = tv0 at HR0 ⊢
        generalize w5.heap.size = m at *
        have HFM : Hid (fb < m) := HR0.out.ft.fbm
        clear A1 K1 L1 HO5 HFB HB5
        go_loopw [12, 13, 14] (fun t s i wr => ∃ q : Nat, i = .int .i64 q ∧ q ≤ r.length ∧ CpR w wr w2.heap.size m fb ws.length cpf (tpN ws r q).1 (tpN ws r q).2.1 (tpN ws r q).2.2 t s) (fun _ _ i _ => r.length - (intOf i).toNat)
        case atStart => exact ⟨0, rfl, Nat.zero_le _, HR0.out⟩
        case round =>
          obtain ⟨q, rfl, hq, hcp⟩ := hrel
          obtain ⟨wo, rfl⟩ : ∃ wo : World, wo = wr := ⟨_, rfl⟩
          have HCP := mkHid hcp
          by_cases hlt : q < r.length
          · obtain ⟨a, hra, has, hrq⟩ := root_at HG.out HM.out hlt
            have hinv := tpN_inv HG.out HM.out q (by omega)
            have HN := mkHid (tpN_next (F := ws) (st := []) hra)
            have HCA := mkHid (hinv.can HG.out has)
            have hfl : (fwd (tpN ws r q).1 (tpN ws r q).2.1 a).2.1.length ≤ 1600 := (hinv.fwd HG.out has).lenT HG.out
            have HLN : Hid ((tpN ws r q).1.length ≤ 800000 ∧ (tpN ws r q).2.1.length ≤ 800000) := ⟨by have := hinv.lenF; omega, by have := hinv.lenT HG.out; omega⟩
            have HTL : Hid ((tpN ws r q).2.2.length = q) := tpN_len ws r q
            obtain ⟨bl, off, rfl, d0⟩ := (HR.out.next hcp.base).at q hlt
            rw [hrq] at d0
            obtain ⟨adt, nt, capt, rfl⟩ := hcp.ft.new.form
            obtain ⟨ads, ns, caps, rfl⟩ := hcp.tp.form
            generalize hF1 : (tpN ws r q).1 = F1 at *
            generalize hT1 : (tpN ws r q).2.1 = T1 at *
            generalize htp1 : (tpN ws r q).2.2 = tp1 at *
            clear hcp hinv hra has hrq hfl hF1 hT1 htp1
            go_wp2_with fail
            refine (l7ForwardA_calls F1 T1 a w2.heap.size m fb ws.length cpf _ wo HCP.out.ft HCA.out HLN.out.1 HLN.out.2).mono ?_
            rintro e w8 ⟨tv8, rfl, hft8, hkm8, hka8⟩
            have HCP8 := mkHid (HCP.out.fwd hft8 hkm8 hka8)
            have HTS8 := mkHid HCP8.out.tp
            obtain ⟨adt8, nt8, capt8, rfl⟩ := hft8.new.form
            obtain ⟨pl, hpl⟩ : ∃ pl, pl = (fwd F1 T1 a).2.2 := ⟨_, rfl⟩
            rw [← hpl] at HN ⊢
            have A8 : Hid (StkI (w8.alloc (.cells #[.int .i64 pl] 3)) m tp1 (.slice ads ns caps)) := StkI.alloc HTS8.out _
            have K8 : Hid (IIn (w8.alloc (.cells #[.int .i64 pl] 3)) [pl] (.slice (some ⟨w8.heap.size, 0, none⟩) 1 1)) := oneI_in w8 pl
            have L8 : Hid (m ≤ (w8.alloc (.cells #[.int .i64 pl] 3)).heap.size) := by rw [Hid, Deep.nblk_alloc]; have := HCP8.out.ft.sz; omega
            clear hft8 hkm8 hka8 hpl d0
            go_wp2_with (have tk := A8; clear tk; at_builtin; go_must (refine wpList_pushA rfl _ _ rfl _ m tp1 [pl] (.slice ads ns caps) (.slice (some ⟨w8.heap.size, 0, none⟩) 1 1) rfl A8.out rfl K8.out L8.out (by have := HTL.out; simp; omega) ?_); go_must (intro v9 w9 hst9 hg9 ho9); go_must (have HCP9 := mkHid (HCP8.out.push hst9 hg9 ho9)); go_must (obtain ⟨ad9, n9, cap9, rfl⟩ := hst9.form); clear hst9 hg9 ho9)
            go_roundw
            case rel => first | exact ⟨q + 1, by go_num, by omega, by rw [HN.out]; exact HCP9.out⟩ | ((repeat apply Exists.intro); exact ⟨⟨q + 1, by go_num, by omega, by rw [HN.out]; exact HCP9.out⟩, rfl⟩)
            case measure => simp [intOf]; omega
          · obtain rfl : q = r.length := by omega
            obtain ⟨s0, hs0⟩ : ∃ s : List Int × List Int × Nat, s = ((tpN ws r r.length).1, (tpN ws r r.length).2.1, 0) := ⟨_, rfl⟩
            obtain ⟨tp, htp⟩ : ∃ tp, tp = (tpN ws r r.length).2.2 := ⟨_, rfl⟩
            have HIN : Hid (CpI ws st s0.1 s0.2.1 s0.2.2) := by rw [hs0]; exact tpN_inv HG.out HM.out _ (Nat.le_refl _)
            rw [← hs0, ← htp] at HV
            have HS0 : Hid (s0.2.2 = 0) := by rw [hs0]; rfl
            obtain ⟨adt, nt, capt, rfl⟩ := hcp.ft.new.form
            obtain ⟨ads, ns, caps, rfl⟩ := hcp.tp.form
            have HC0' : Hid (CpR w wo w2.heap.size m fb ws.length cpf s0.1 s0.2.1 tp (.slice adt nt capt) (.slice ads ns caps)) := by rw [hs0, htp]; exact hcp
            clear hcp HCP HR0 hs0 htp
            go_wp2_with fail
            go_loopw [12, 17] (fun t s wr => ∃ n : Nat, s = .int .i64 (((cpIt s0 n).2.2 : Nat) : Int) ∧ n ≤ (cpIt s0 n).2.2 ∧ CpR w wr w2.heap.size m fb ws.length cpf (cpIt s0 n).1 (cpIt s0 n).2.1 tp t (.slice ads ns caps)) (fun _ s _ => ws.length + 1 - (intOf s).toNat)
            case atStart => exact ⟨0, by have := HS0.out; show _ = Value.int .i64 ((s0.2.2 : Nat) : Int); rw [this]; rfl, by have := HS0.out; show 0 ≤ _; omega, HC0'.out⟩
            case round =>
              obtain ⟨n, rfl, hn, hcp⟩ := hrel
              obtain ⟨wo, rfl⟩ : ∃ wo : World, wo = wr := ⟨_, rfl⟩
              have HCPI := mkHid (cpIt_inv HG.out HIN.out n)
              obtain ⟨Fn, hFn⟩ : ∃ F, F = (cpIt s0 n).1 := ⟨_, rfl⟩
              obtain ⟨Tn, hTn⟩ : ∃ F, F = (cpIt s0 n).2.1 := ⟨_, rfl⟩
              obtain ⟨sc, hsc⟩ : ∃ k, k = (cpIt s0 n).2.2 := ⟨_, rfl⟩
              have HFN := mkHid hFn
              have HTN := mkHid hTn
              have HSN := mkHid hsc
              rw [← hFn, ← hTn] at hcp
              rw [← hFn, ← hTn, ← hsc] at HCPI
              rw [← hsc] at hn ⊢
              obtain ⟨adt, capt, rfl⟩ := hcp.ft.new.len
              have HCP := mkHid hcp
              have HNN := mkHid hn
              have hle := HCPI.out.lenT HG.out
              have hsz := HCPI.out.size
              have hlf := HCPI.out.lenF
              clear hcp hFn hTn hsc
              by_cases hlt : sc < Tn.length
              · obtain ⟨hwh, hfit, -⟩ := HCPI.out.scan HG.out hlt
                have HC8 : Hid (Calls Try.prog 44 #[.slice (some ⟨fb, 0, none⟩) ws.length cpf, .slice adt Tn.length capt, .int .i64 (sc : Int)] wo fun e w' => ∃ tv', e = .returned (.tuple #[tv', .int .i64 ((sc + wLen (opW Tn sc) : Nat) : Int)]) ∧ FTm w' w2.heap.size m fb ws.length cpf (scanC Fn Tn sc).1 (scanC Fn Tn sc).2 tv' ∧ KeepM m fb wo w' ∧ KeepA fb (.slice adt Tn.length capt) tv' wo w') := l7ScanA_calls Fn Tn sc w2.heap.size m fb ws.length cpf _ wo HCP.out.ft hwh hfit (by omega) (by omega)
                have HNX : Hid (cpIt s0 (n + 1) = ((scanC Fn Tn sc).1, (scanC Fn Tn sc).2, sc + wLen (opW Tn sc))) := by
                  have h := cpIt_next (s := s0) (n := n) (by rw [← HSN.out, ← HTN.out]; exact hlt)
                  rw [← HSN.out, ← HTN.out, ← HFN.out] at h
                  exact h
                have h2 := wLen_pos hwh.1
                obtain ⟨s9, hs9⟩ : ∃ s9 : Nat, s9 = sc + wLen (opW Tn sc) := ⟨_, rfl⟩
                rw [← hs9] at HC8 HNX
                have hs9b : sc + 2 ≤ s9 := by omega
                clear hwh hfit h2 hs9
                go_wp2_with fail
                refine HC8.out.mono ?_
                rintro e w8 ⟨tv8, rfl, hft8, hkm8, hka8⟩
                have HCP8 := mkHid (HCP.out.fwd hft8 hkm8 hka8)
                obtain ⟨adt8, nt8, capt8, rfl⟩ := hft8.new.form
                clear hft8 hkm8 hka8
                go_wp2_with fail
                go_roundw
                case rel => first | exact ⟨n + 1, by rw [HNX.out], by rw [HNX.out]; show n + 1 ≤ s9; omega, by rw [HNX.out]; exact HCP8.out⟩ | ((repeat apply Exists.intro); exact ⟨⟨n + 1, by rw [HNX.out], by rw [HNX.out]; show n + 1 ≤ s9; omega, by rw [HNX.out]; exact HCP8.out⟩, rfl⟩)
                case measure => simp [intOf]; omega
              · have HEND : Hid ((cpLast s0).2.1 = Tn) := by
                  have h := cpLast_end HG.out HIN.out (n := n) (by rw [← HSN.out]; exact HNN.out) (by rw [← HSN.out, ← HTN.out]; exact hlt)
                  rw [Hid, h, HTN.out]
                go_wp2_with fail
                refine bodyPost_ret (v := .tuple #[.slice adt Tn.length capt, .slice ads ns caps, .bool true]) (by simp [results, Try.results22, go_sem]) rfl ?_
                rw [HV.out, HEND.out]
                exact ⟨_, _, rfl, HCP.out.ft.new.row.inn, HCP.out.tp.row.inn, HCP.out.base⟩
end Go.Proofs.Ytiipcgnkfhjpeaa
/-
  slices.BinarySearch AND slices.Clone, of ints.
-/
namespace Go.Proofs.Ytiipcgnkfhjpeaa
set_option linter.unusedVariables false
set_option linter.unusedSimpArgs false
open Go.RowKit


theorem isNaN_calls (x : Int) (w : World) : Calls Try.prog 79 #[.int .i64 x] w fun e w' => e = .returned (.bool false) ∧ w = w' := by
  have t1 : (x != x) = false := by simp
  go_enter Try.func79, Try.ntmps79
  go_wp2_with fail
  go_ret
  exact ⟨rfl, rfl⟩
theorem isNaNc_calls (x : Int) (w : World) : Calls Try.prog 80 #[.int .i64 x] w fun e w' => e = .returned (.bool false) ∧ w = w' := by
  have t1 : (x != x) = false := by simp
  go_enter Try.func80, Try.ntmps80
  go_wp2_with fail
  go_ret
  exact ⟨rfl, rfl⟩
theorem less_calls (x y : Int) (w : World) : Calls Try.prog 78 #[.int .i64 x, .int .i64 y] w fun e w' => e = .returned (.bool (decide (x < y))) ∧ w = w' := by
  go_enter Try.func78, Try.ntmps78
  go_wp2_with (first
    | (go_at_call 80; refine (isNaNc_calls _ _).mono ?_; rintro e w1 ⟨rfl, rfl⟩))
  go_ret
  exact ⟨rfl, rfl⟩
set_option maxHeartbeats 800000 in
theorem search_calls (xs : List Int) (a : Int) (v : Value) (w : World) (hk : IIn w xs v) (hs : xs.Pairwise (· < ·)) (hl : xs.length ≤ 1048576) :
    Calls Try.prog 75 #[v, .int .i64 a] w fun e w' => ∃ i : Int, e = .returned (.tuple #[.int .i64 i, .bool (decide (0 ≤ idxI xs a))]) ∧ (0 ≤ idxI xs a → i = idxI xs a) ∧ w = w' := by
  have HK := mkHid hk
  have HS := mkHid hs
  obtain ⟨ad, cap, rfl, hlc, hm, -⟩ := hk
  unfold maxLen at hm
  clear hs
  go_enter Try.func75, Try.ntmps75
  go_wp2_with fail
  go_loopw [7, 8] (fun l h wr => ∃ lo hi : Nat, l = .int .i64 lo ∧ h = .int .i64 hi ∧ Bis xs a lo hi ∧ wr = w) (fun l h _ => (intOf h).toNat - (intOf l).toNat)
  case atStart => exact ⟨0, xs.length, rfl, rfl, Bis.start _ _, rfl⟩
  case round =>
    obtain ⟨lo, hi, rfl, rfl, hbis, rfl⟩ := hrel
    have HBI := mkHid hbis
    have hb1 := hbis.1
    have hb2 := hbis.2.1
    clear hbis
    by_cases hlt : lo < hi
    · have hm1 : lo ≤ (lo + hi) / 2 ∧ (lo + hi) / 2 < hi := by omega
      have hmx : (lo + hi) / 2 < xs.length := by omega
      have hmi : ((lo : Int) + hi) / 2 = (((lo + hi) / 2 : Nat) : Int) := by omega
      obtain ⟨bl, off, rfl, d0⟩ := HK.out.at ((lo + hi) / 2) hmx
      have HMX := mkHid (And.intro hm1 hmi)
      clear hmi
      go_wp2_with fail
      refine (less_calls _ _ _).mono ?_
      rintro e w1 ⟨rfl, rfl⟩
      by_cases hc : xs[(lo + hi) / 2] < a
      · have hc' : decide (xs[(lo + hi) / 2] < a) = true := by simpa using hc
        rw [hc']
        go_wp2_with fail
        go_roundw
        case rel => exact ⟨(lo + hi) / 2 + 1, hi, by rw [HMX.out.2]; go_num, rfl, HBI.out.up HS.out hm1.2 hmx hc, by first | rfl | trivial⟩
        case measure => have := HMX.out.2; simp [intOf]; omega
      · have hc' : decide (xs[(lo + hi) / 2] < a) = false := by simpa using hc
        rw [hc']
        go_wp2_with fail
        go_roundw
        case rel => exact ⟨lo, (lo + hi) / 2, rfl, by rw [HMX.out.2], HBI.out.down HS.out hm1.2 hm1.1 hmx (by omega), by first | rfl | trivial⟩
        case measure => have := HMX.out.2; simp [intOf]; omega
    · obtain rfl : lo = hi := by omega
      by_cases hl2 : lo < xs.length
      · obtain ⟨bl, off, rfl, d0⟩ := HK.out.at lo hl2
        by_cases he : xs[lo] = a
        · have HV : Hid (idxI xs a = (lo : Int)) := idxI_found HS.out hl2 he
          have he' : (xs[lo] == a) = true := by simpa using he
          clear he
          go_wp2_with (first
            | (go_at_call 79; refine (isNaN_calls _ _).mono ?_; rintro e w1 ⟨rfl, rfl⟩))
          refine bodyPost_ret (v := .tuple #[.int .i64 lo, .bool true]) (by simp [results, Try.results75, go_sem]) rfl ?_
          exact ⟨(lo : Int), by rw [HV.out]; simp, fun _ => HV.out.symm, rfl⟩
        · have HV : Hid (idxI xs a = -1) := HBI.out.none (fun _ => he) HS.out
          have he' : (xs[lo] == a) = false := by simpa using he
          go_wp2_with (first
            | (go_at_call 79; refine (isNaN_calls _ _).mono ?_; rintro e w1 ⟨rfl, rfl⟩))
          refine bodyPost_ret (v := .tuple #[.int .i64 lo, .bool false]) (by simp [results, Try.results75, go_sem]) rfl ?_
          exact ⟨(lo : Int), by rw [HV.out]; rfl, fun h => by have := HV.out; omega, rfl⟩
      · have HV : Hid (idxI xs a = -1) := HBI.out.none (fun h => absurd h hl2) HS.out
        go_wp2_with fail
        refine bodyPost_ret (v := .tuple #[.int .i64 lo, .bool false]) (by simp [results, Try.results75, go_sem]) rfl ?_
        exact ⟨(lo : Int), by rw [HV.out]; rfl, fun h => by have := HV.out; omega, rfl⟩

theorem clone_belowI {wr w1 : World} {o : Obj} (h : (wr.alloc o).grownBy w1 (Value.slice (some ⟨wr.heap.size, 0, none⟩) 0 0).ownBlock) : Below wr.heap.size wr w1 :=
  ⟨h.os, h.tape, h.output, by have h1 : (wr.alloc o).heap.size ≤ w1.heap.size := h.size; rw [Deep.nblk_alloc] at h1; omega, fun k hk => (h.block k (by show k < (wr.alloc o).heap.size; rw [Deep.nblk_alloc]; omega) (by simp only [Value.ownBlock, ne_eq, Option.some.injEq]; omega)).trans (Deep.blk_alloc_lt _ _ _ hk)⟩
/-- a copy, in a row of its own -/
def CloneW (xs : List Int) (w : World) (e : Ending) (w' : World) : Prop := ∃ v, e = .returned v ∧ StkI w' w.heap.size xs v ∧ Below w.heap.size w w'
set_option maxRecDepth 100000 in
set_option maxHeartbeats 800000 in
theorem cloneW_calls (xs : List Int) (v : Value) (w : World) (hk : IIn w xs v) (hl : xs.length ≤ 1048576) : Calls Try.prog 47 #[v] w (CloneW xs w) := by
  have HK : Hid (IIn w xs v) := hk
  obtain ⟨ad, cap, rfl, hlc, hm, hr⟩ := hk
  unfold maxLen at hm
  rcases ad with _ | ad
  · have hnil : xs = [] := by
      rcases hr with h | ⟨_, _, h, -⟩
      · exact h
      · simp at h
    subst hnil
    clear hr HK
    have q : (binOp .eql 24 (.slice none 0 cap) (.slice none 0 0)).run Try.prog w = .ok (.bool true) w := Lib.run_eql_slice_nil w _ _ none 0 cap 0 0 Try.underlying24
    go_enter Try.func47, Try.ntmps47
    go_wp2_with fail
    go_ret
    exact ⟨_, rfl, StkI.none _ _, Below.refl _ _⟩
  · clear hr
    have q : (binOp .eql 24 (.slice (some ad) xs.length cap) (.slice none 0 0)).run Try.prog w = .ok (.bool false) w := Lib.run_eql_slice_nil w _ _ (some ad) xs.length cap 0 0 Try.underlying24
    go_enter Try.func47, Try.ntmps47
    go_wp2_with (at_builtin; go_must (refine wpList_pushI rfl _ _ rfl _ w.heap.size [] xs (.slice (some ⟨w.heap.size, 0, none⟩) 0 0) (.slice (some ad) xs.length cap) rfl (StkI.nil w _ (Nat.le_refl _)) rfl (HK.out.next (box_below w _)) (by rw [Deep.nblk_alloc]; omega) (by simp only [List.length_nil]; omega) ?_); go_must (intro v1 w1 hst1 hg1); go_must (have HST1 : Hid (StkI w1 w.heap.size xs v1) := hst1); go_must (have HB1 : Hid (Below w.heap.size w w1) := clone_belowI hg1); clear hst1 hg1)
    go_ret
    exact ⟨_, rfl, HST1.out, HB1.out⟩
end Go.Proofs.Ytiipcgnkfhjpeaa
/-
  THE PROGRAM's ExprValid (opOf, nodeOf, the four kinds' fits, nodesLeft, ExprValid): which trees it takes for valid; nothing that was there is changed.
-/
namespace Go.Proofs.Ytiipcgnkfhjpeaa
set_option linter.unusedVariables false
set_option linter.unusedSimpArgs false
open Go.RowKit

/-- how nodes of a kind with operands are written -/
def opKids (op : Int) : Int := if op = 4 then 2 else if op = 5 then 2 else if op = 6 then 1 else if op = 7 then 1 else if op = 8 then 2 else if op = 9 then 2 else if op = 10 then 3 else 0
def opMarks (op : Int) : ByteArray := if op = 4 then ⟨#[40, 32, 41]⟩ else if op = 5 then ⟨#[60, 44, 62]⟩ else if op = 6 then ⟨#[126]⟩ else if op = 7 then ⟨#[94]⟩ else if op = 8 then ⟨#[40, 43, 41]⟩ else if op = 9 then ⟨#[40, 45, 41]⟩ else if op = 10 then ⟨#[91, 63, 58, 93]⟩ else ⟨#[]⟩
def opOk (op : Int) : Bool := decide (4 ≤ op ∧ op ≤ 10)

/-- opOf has handed back the row of a kind -/
def OpRow (op : Int) (w : World) (e : Ending) (w' : World) : Prop := e = .returned (.tuple #[.agg #[.int .i64 (opKids op), .string (opMarks op)], .bool (opOk op)]) ∧ Below w.heap.size w w'

theorem opRow_4 {op : Int} (h : (op == 4) = true) : opKids op = 2 ∧ opMarks op = ⟨#[40, 32, 41]⟩ ∧ opOk op = true := by
  have e : op = 4 := by simpa using h
  subst e
  exact ⟨rfl, rfl, rfl⟩
theorem opRow_5 {op : Int} (h : (op == 5) = true) : opKids op = 2 ∧ opMarks op = ⟨#[60, 44, 62]⟩ ∧ opOk op = true := by
  have e : op = 5 := by simpa using h
  subst e
  exact ⟨rfl, rfl, rfl⟩
theorem opRow_6 {op : Int} (h : (op == 6) = true) : opKids op = 1 ∧ opMarks op = ⟨#[126]⟩ ∧ opOk op = true := by
  have e : op = 6 := by simpa using h
  subst e
  exact ⟨rfl, rfl, rfl⟩
theorem opRow_7 {op : Int} (h : (op == 7) = true) : opKids op = 1 ∧ opMarks op = ⟨#[94]⟩ ∧ opOk op = true := by
  have e : op = 7 := by simpa using h
  subst e
  exact ⟨rfl, rfl, rfl⟩
theorem opRow_8 {op : Int} (h : (op == 8) = true) : opKids op = 2 ∧ opMarks op = ⟨#[40, 43, 41]⟩ ∧ opOk op = true := by
  have e : op = 8 := by simpa using h
  subst e
  exact ⟨rfl, rfl, rfl⟩
theorem opRow_9 {op : Int} (h : (op == 9) = true) : opKids op = 2 ∧ opMarks op = ⟨#[40, 45, 41]⟩ ∧ opOk op = true := by
  have e : op = 9 := by simpa using h
  subst e
  exact ⟨rfl, rfl, rfl⟩
theorem opRow_10 {op : Int} (h : (op == 10) = true) : opKids op = 3 ∧ opMarks op = ⟨#[91, 63, 58, 93]⟩ ∧ opOk op = true := by
  have e : op = 10 := by simpa using h
  subst e
  exact ⟨rfl, rfl, rfl⟩
theorem opRow_no {op : Int} (h4 : (op == 4) = false) (h5 : (op == 5) = false) (h6 : (op == 6) = false) (h7 : (op == 7) = false) (h8 : (op == 8) = false) (h9 : (op == 9) = false) (h10 : (op == 10) = false) : opKids op = 0 ∧ opMarks op = ⟨#[]⟩ ∧ opOk op = false := by
  simp only [beq_eq_false_iff_ne] at *
  refine ⟨?_, ?_, ?_⟩
  · unfold opKids; rw [if_neg h4, if_neg h5, if_neg h6, if_neg h7, if_neg h8, if_neg h9, if_neg h10]
  · unfold opMarks; rw [if_neg h4, if_neg h5, if_neg h6, if_neg h7, if_neg h8, if_neg h9, if_neg h10]
  · unfold opOk; rw [decide_eq_false]; omega

set_option maxHeartbeats 400000 in
theorem opOf_calls (op : Int) (w : World) : Calls Try.prog 62 #[.int .i64 op] w (OpRow op w) := by
  go_enter Try.func62, Try.ntmps62
  go_wp2_with fail
  all_goals first
    | (rename (op == 4) = true => ht; obtain ⟨e1, e2, e3⟩ := opRow_4 ht; refine bodyPost_ret (v := .tuple #[.agg #[.int .i64 2, .string ⟨#[40, 32, 41]⟩], .bool true]) (by simp [results, Try.results62, go_sem]) rfl ⟨by rw [e1, e2, e3], box_below _ _⟩)
    | (rename (op == 5) = true => ht; obtain ⟨e1, e2, e3⟩ := opRow_5 ht; refine bodyPost_ret (v := .tuple #[.agg #[.int .i64 2, .string ⟨#[60, 44, 62]⟩], .bool true]) (by simp [results, Try.results62, go_sem]) rfl ⟨by rw [e1, e2, e3], box_below _ _⟩)
    | (rename (op == 6) = true => ht; obtain ⟨e1, e2, e3⟩ := opRow_6 ht; refine bodyPost_ret (v := .tuple #[.agg #[.int .i64 1, .string ⟨#[126]⟩], .bool true]) (by simp [results, Try.results62, go_sem]) rfl ⟨by rw [e1, e2, e3], box_below _ _⟩)
    | (rename (op == 7) = true => ht; obtain ⟨e1, e2, e3⟩ := opRow_7 ht; refine bodyPost_ret (v := .tuple #[.agg #[.int .i64 1, .string ⟨#[94]⟩], .bool true]) (by simp [results, Try.results62, go_sem]) rfl ⟨by rw [e1, e2, e3], box_below _ _⟩)
    | (rename (op == 8) = true => ht; obtain ⟨e1, e2, e3⟩ := opRow_8 ht; refine bodyPost_ret (v := .tuple #[.agg #[.int .i64 2, .string ⟨#[40, 43, 41]⟩], .bool true]) (by simp [results, Try.results62, go_sem]) rfl ⟨by rw [e1, e2, e3], box_below _ _⟩)
    | (rename (op == 9) = true => ht; obtain ⟨e1, e2, e3⟩ := opRow_9 ht; refine bodyPost_ret (v := .tuple #[.agg #[.int .i64 2, .string ⟨#[40, 45, 41]⟩], .bool true]) (by simp [results, Try.results62, go_sem]) rfl ⟨by rw [e1, e2, e3], box_below _ _⟩)
    | (rename (op == 10) = true => ht; obtain ⟨e1, e2, e3⟩ := opRow_10 ht; refine bodyPost_ret (v := .tuple #[.agg #[.int .i64 3, .string ⟨#[91, 63, 58, 93]⟩], .bool true]) (by simp [results, Try.results62, go_sem]) rfl ⟨by rw [e1, e2, e3], box_below _ _⟩)
    | (rename (op == 4) = false => h4; rename (op == 5) = false => h5; rename (op == 6) = false => h6; rename (op == 7) = false => h7; rename (op == 8) = false => h8; rename (op == 9) = false => h9; rename (op == 10) = false => h10; obtain ⟨e1, e2, e3⟩ := opRow_no h4 h5 h6 h7 h8 h9 h10; refine bodyPost_ret (v := .tuple #[.agg #[.int .i64 0, .string ⟨#[]⟩], .bool false]) (by simp [results, Try.results62, go_sem]) rfl ⟨by rw [e1, e2, e3], box_below _ _⟩)

set_option maxHeartbeats 400000 in
theorem nodeOf_1 (n : Int) (len : Nat) (w : World) : Calls Try.prog 73 #[.int .i64 1, .int .i64 n, .int .i64 (len : Int)] w fun e w' => e = .returned (.tuple #[.iface 99 (.int .i64 n), .bool ((len : Int) == 0)]) ∧ Below w.heap.size w w' := by
  go_enter Try.func73, Try.ntmps73
  go_wp2_with fail
  go_ret2
  exact ⟨rfl, Below.refl _ _⟩

set_option maxHeartbeats 400000 in
theorem nodeOf_2 (n : Int) (len : Nat) (w : World) : Calls Try.prog 73 #[.int .i64 2, .int .i64 n, .int .i64 (len : Int)] w fun e w' => e = .returned (.tuple #[.iface 100 (.int .i64 n), .bool ((len : Int) == 0)]) ∧ Below w.heap.size w w' := by
  go_enter Try.func73, Try.ntmps73
  go_wp2_with fail
  go_ret2
  exact ⟨rfl, Below.refl _ _⟩

set_option maxHeartbeats 400000 in
theorem nodeOf_3 (n : Int) (len : Nat) (w : World) : Calls Try.prog 73 #[.int .i64 3, .int .i64 n, .int .i64 (len : Int)] w fun e w' => e = .returned (.tuple #[.iface 101 (.int .i64 n), .bool ((len : Int) == 0)]) ∧ Below w.heap.size w w' := by
  go_enter Try.func73, Try.ntmps73
  go_wp2_with fail
  go_ret2
  exact ⟨rfl, Below.refl _ _⟩

theorem ret_node {v : Value} {a b : Bool} (h : a = b) : Ending.returned (.tuple #[v, .bool a]) = .returned (.tuple #[v, .bool b]) := by rw [h]
/-- nodeOf has handed back a node with operands -/
def OpNode (op : Int) (b : Bool) (w : World) (e : Ending) (w' : World) : Prop := e = .returned (.tuple #[.iface 82 (.agg #[.int .i64 (opKids op), .string (opMarks op)]), .bool b]) ∧ Below w.heap.size w w'
theorem opKids_range (op : Int) : 0 ≤ opKids op ∧ opKids op ≤ 3 := by
  unfold opKids
  repeat' split
  all_goals omega

set_option maxHeartbeats 800000 in
theorem nodeOf_op (op n : Int) (len : Nat) (w : World) (t1 : (op == 1) = false) (t2 : (op == 2) = false) (t3 : (op == 3) = false) :
    Calls Try.prog 73 #[.int .i64 op, .int .i64 n, .int .i64 (len : Int)] w (OpNode op (opOk op && ((n == 0) && ((len : Int) == opKids op))) w) := by
  have hkr := opKids_range op
  go_enter Try.func73, Try.ntmps73
  go_wp2_with fail
  refine (opOf_calls op _).mono ?_
  rintro e w1 ⟨rfl, hb⟩
  have HB : Hid (Below w.heap.size w w1) := hb
  have hle : w.heap.size ≤ w1.heap.size := hb.size
  clear hb
  cases hok : opOk op with
  | false =>
    have HV : Hid ((opOk op && ((n == 0) && ((len : Int) == opKids op))) = false) := by simp [Hid, hok]
    go_wp2_with fail
    have k3 := cell_regrown (box_cell w1 #[.int .i64 (opKids op), .string (opMarks op)] 82 0 _ rfl)
    have k4 := cell_regrown (box_cell w1 #[.int .i64 (opKids op), .string (opMarks op)] 82 1 _ rfl)
    refine wp_region_quiet_below (by kernel_rfl) (by kernel_rfl) ?_
    repeat (any_goals (first | go_big_quiet_step (fail) | quiet_step (fail)))
    refine wpQuiet_nil ?_
    intro _ hw'
    obtain ⟨⟨dq, osq⟩, hw''⟩ := hw'
    subst hw''
    clear k3 k4
    go_wp2_with fail
    go_ret2
    exact ⟨ret_node HV.out.symm, HB.out.trans ((box_below _ _).trans ((below_regrown _ _ _).mono (by rw [Deep.nblk_alloc]; omega)) |>.mono hle)⟩
  | true =>
    by_cases hn : n = 0
    · subst hn
      by_cases hl : (len : Int) = opKids op
      · have hl' : ((len : Int) == opKids op) = true := by simpa using hl
        have HV : Hid ((opOk op && (((0 : Int) == 0) && ((len : Int) == opKids op))) = true) := by simp [Hid, hok, hl']
        clear hl
        go_wp2_with fail
        have k3 := cell_regrown (box_cell w1 #[.int .i64 (opKids op), .string (opMarks op)] 82 0 _ rfl)
        have k4 := cell_regrown (box_cell w1 #[.int .i64 (opKids op), .string (opMarks op)] 82 1 _ rfl)
        refine wp_region_quiet_below (by kernel_rfl) (by kernel_rfl) ?_
        repeat (any_goals (first | go_big_quiet_step (fail) | quiet_step (fail)))
        refine wpQuiet_nil ?_
        intro _ hw'
        obtain ⟨⟨dq, osq⟩, hw''⟩ := hw'
        subst hw''
        clear k3 k4
        go_wp2_with fail
        go_ret2
        exact ⟨ret_node HV.out.symm, HB.out.trans ((box_below _ _).trans ((below_regrown _ _ _).mono (by rw [Deep.nblk_alloc]; omega)) |>.mono hle)⟩
      · have hl' : ((len : Int) == opKids op) = false := by simpa using hl
        have HV : Hid ((opOk op && (((0 : Int) == 0) && ((len : Int) == opKids op))) = false) := by simp [Hid, hok, hl']
        clear hl
        go_wp2_with fail
        have k3 := cell_regrown (box_cell w1 #[.int .i64 (opKids op), .string (opMarks op)] 82 0 _ rfl)
        have k4 := cell_regrown (box_cell w1 #[.int .i64 (opKids op), .string (opMarks op)] 82 1 _ rfl)
        refine wp_region_quiet_below (by kernel_rfl) (by kernel_rfl) ?_
        repeat (any_goals (first | go_big_quiet_step (fail) | quiet_step (fail)))
        refine wpQuiet_nil ?_
        intro _ hw'
        obtain ⟨⟨dq, osq⟩, hw''⟩ := hw'
        subst hw''
        clear k3 k4
        go_wp2_with fail
        go_ret2
        exact ⟨ret_node HV.out.symm, HB.out.trans ((box_below _ _).trans ((below_regrown _ _ _).mono (by rw [Deep.nblk_alloc]; omega)) |>.mono hle)⟩
    · have hn' : (n == 0) = false := by simpa using hn
      have HV : Hid ((opOk op && ((n == 0) && ((len : Int) == opKids op))) = false) := by simp [Hid, hok, hn']
      go_wp2_with fail
      have k3 := cell_regrown (box_cell w1 #[.int .i64 (opKids op), .string (opMarks op)] 82 0 _ rfl)
      have k4 := cell_regrown (box_cell w1 #[.int .i64 (opKids op), .string (opMarks op)] 82 1 _ rfl)
      refine wp_region_quiet_below (by kernel_rfl) (by kernel_rfl) ?_
      repeat (any_goals (first | go_big_quiet_step (fail) | quiet_step (fail)))
      refine wpQuiet_nil ?_
      intro _ hw'
      obtain ⟨⟨dq, osq⟩, hw''⟩ := hw'
      subst hw''
      clear k3 k4
      go_wp2_with fail
      go_ret2
      exact ⟨ret_node HV.out.symm, HB.out.trans ((box_below _ _).trans ((below_regrown _ _ _).mono (by rw [Deep.nblk_alloc]; omega)) |>.mono hle)⟩
end Go.Proofs.Ytiipcgnkfhjpeaa
/-
  THE PROGRAM's hasNumber AND sizeOfKind.
-/
namespace Go.Proofs.Ytiipcgnkfhjpeaa
set_option linter.unusedVariables false
set_option linter.unusedSimpArgs false
open Go.RowKit


theorem hasNumber_calls (op : Int) (w : World) : Calls Try.prog 39 #[.int .i64 op] w fun e w' => e = .returned (.bool (isNumOp op)) ∧ w = w' := by
  by_cases h2 : op = 2
  · subst h2
    go_enter Try.func39, Try.ntmps39
    go_wp2_with fail
    go_ret
    exact ⟨rfl, rfl⟩
  by_cases h3 : op = 3
  · subst h3
    go_enter Try.func39, Try.ntmps39
    go_wp2_with fail
    go_ret
    exact ⟨rfl, rfl⟩
  have hv : isNumOp op = false := by unfold isNumOp; simp; omega
  have h2' : (op == 2) = false := by simpa using h2
  have h3' : (op == 3) = false := by simpa using h3
  rw [hv]
  clear h2 h3 hv
  go_enter Try.func39, Try.ntmps39
  go_wp2_with fail
  go_ret
  exact ⟨rfl, rfl⟩

/-- what sizeOfKind answers as a size -/
def sizeV (op : Int) : Int := if wLen op = 0 then 1 else wLen op
theorem sizeV_ok {op : Int} (h : wLen op ≠ 0) : sizeV op = (wLen op : Int) := by unfold sizeV; rw [if_neg h]
def sizeOk (op : Int) : Bool := decide (wLen op ≠ 0)
theorem sizeV_op {op : Int} (h2 : op ≠ 2) (h3 : op ≠ 3) (h11 : op ≠ 11) : opOk op = sizeOk op ∧ 1 + opKids op = sizeV op := by
  unfold sizeOk opOk sizeV opKids wLen
  repeat' split
  all_goals (try omega)
  all_goals (refine ⟨?_, ?_⟩ <;> simp at * <;> omega)

set_option maxHeartbeats 400000 in
theorem sizeOfKind_calls (op : Int) (w : World) : Calls Try.prog 38 #[.int .i64 op] w fun e w' => e = .returned (.tuple #[.int .i64 (sizeV op), .bool (sizeOk op)]) ∧ Below w.heap.size w w' := by
  by_cases h2 : op = 2
  · subst h2
    go_enter Try.func38, Try.ntmps38
    go_wp2_with fail
    go_ret2
    exact ⟨rfl, Below.refl _ _⟩
  by_cases h3 : op = 3
  · subst h3
    go_enter Try.func38, Try.ntmps38
    go_wp2_with fail
    go_ret2
    exact ⟨rfl, Below.refl _ _⟩
  by_cases h11 : op = 11
  · subst h11
    go_enter Try.func38, Try.ntmps38
    go_wp2_with fail
    go_ret2
    exact ⟨rfl, Below.refl _ _⟩
  obtain ⟨e1, e2⟩ := sizeV_op h2 h3 h11
  have h2' : (op == 2) = false := by simpa using h2
  have h3' : (op == 3) = false := by simpa using h3
  have h11' : (op == 11) = false := by simpa using h11
  have HV := mkHid (And.intro e1 e2)
  have hkb : 0 ≤ opKids op ∧ opKids op ≤ 3 := by unfold opKids; repeat' split
                                                 all_goals omega
  clear h2 h3 h11 e1 e2
  go_enter Try.func38, Try.ntmps38
  go_wp2_with fail
  refine (opOf_calls op _).mono ?_
  rintro e w1 ⟨rfl, hb1⟩
  have HB1 := mkHid hb1
  obtain ⟨k, hk⟩ : ∃ k, k = opKids op := ⟨_, rfl⟩
  have HKE := mkHid hk
  rw [← hk] at hkb ⊢
  clear hb1 hk
  go_wp2_with fail
  refine bodyPost_ret (v := .tuple #[.int .i64 (1 + k), .bool (opOk op)]) (by simp [results, Try.results38, go_sem]) rfl ?_
  exact ⟨by rw [HV.out.1, HKE.out, HV.out.2], HB1.out.alloc HB1.out.size _⟩
end Go.Proofs.Ytiipcgnkfhjpeaa
/-
  THE PROGRAM's wordsAt, addressesIn, startsOf, placesIn.
-/
namespace Go.Proofs.Ytiipcgnkfhjpeaa
set_option linter.unusedVariables false
set_option linter.unusedSimpArgs false
open Go.RowKit


set_option maxHeartbeats 800000 in
theorem wordsAt_no (ws : List Int) (a : Nat) (v : Value) (w : World) (hk : IIn w ws v) (ha : a < ws.length) (hn : ¬ WholeAt ws a) (hl : ws.length ≤ 1048576) :
    Calls Try.prog 52 #[v, .int .i64 (a : Int)] w fun e w' => e = .returned (.tuple #[.slice none 0 0, .bool false]) ∧ Below w.heap.size w w' := by
  have HK := mkHid hk
  obtain ⟨ad, cap, rfl, hlc, hm, -⟩ := hk
  unfold maxLen at hm
  obtain ⟨bl, off, rfl, d0⟩ := HK.out.at a ha
  obtain ⟨op, hop⟩ : ∃ op, op = ws[a] := ⟨_, rfl⟩
  have hn' : ¬ (wLen op ≠ 0 ∧ a + wLen op ≤ ws.length) := by rw [hop, ← opW_at ha]; exact hn
  rw [← hop] at d0
  clear hop
  go_enter Try.func52, Try.ntmps52
  go_wp2_with fail
  refine (sizeOfKind_calls op w).mono ?_
  rintro e w1 ⟨rfl, hb1⟩
  have HB1 := mkHid hb1
  clear hb1 d0
  by_cases h0 : wLen op = 0
  · have hs : sizeOk op = false := by unfold sizeOk; simp [h0]
    rw [hs]
    go_wp2_with fail
    refine bodyPost_ret (v := .tuple #[.slice none 0 0, .bool false]) (by simp [results, Try.results52, go_sem]) rfl ?_
    exact ⟨rfl, HB1.out⟩
  · have hs : sizeOk op = true := by unfold sizeOk; simp [h0]
    rw [hs, sizeV_ok h0]
    obtain ⟨n, hnn⟩ : ∃ n : Nat, n = wLen op := ⟨_, rfl⟩
    have h4 := wLen_le op
    rw [← hnn] at hn' h0 h4 ⊢
    have hbig : (ws.length : Int) - (a : Int) < (n : Int) := by omega
    clear hnn hs
    go_wp2_with fail
    refine bodyPost_ret (v := .tuple #[.slice none 0 0, .bool false]) (by simp [results, Try.results52, go_sem]) rfl ?_
    exact ⟨rfl, HB1.out⟩
set_option maxHeartbeats 800000 in
theorem wordsAt_yes (ws : List Int) (a : Nat) (bl off cap : Nat) (w : World) (hk : IIn w ws (.slice (some ⟨bl, off, none⟩) ws.length cap)) (ha : a < ws.length) (hn : WholeAt ws a) (hl : ws.length ≤ 1048576) :
    Calls Try.prog 52 #[.slice (some ⟨bl, off, none⟩) ws.length cap, .int .i64 (a : Int)] w fun e w' => e = .returned (.tuple #[.slice (some ⟨bl, off + a, none⟩) (wLen (opW ws a)) (cap - a), .bool true]) ∧ Below w.heap.size w w' := by
  have HK := mkHid hk
  obtain ⟨_, _, he1, hlc, hm, -⟩ := hk
  simp only [Value.slice.injEq, true_and] at he1
  obtain ⟨-, rfl⟩ := he1
  unfold maxLen at hm
  obtain ⟨b1, o1, he, d0⟩ := HK.out.at a ha
  simp only [Option.some.injEq, Addr.mk.injEq, and_true] at he
  obtain ⟨rfl, rfl⟩ := he
  obtain ⟨h0, hfit⟩ := hn
  rw [opW_at ha] at h0 hfit ⊢
  obtain ⟨op, hop⟩ : ∃ op, op = ws[a] := ⟨_, rfl⟩
  rw [← hop] at d0 h0 hfit ⊢
  clear hop
  have hs : sizeOk op = true := by unfold sizeOk; simp [h0]
  have hsv := sizeV_ok h0
  have HSV := mkHid (And.intro hs hsv)
  obtain ⟨n, hnn⟩ : ∃ n : Nat, n = wLen op := ⟨_, rfl⟩
  have HN := mkHid hnn
  have h4 := wLen_le op
  rw [← hnn] at h0 hfit h4 ⊢
  have hbig : ¬ (ws.length : Int) - (a : Int) < (n : Int) := by omega
  clear hnn hs hsv
  go_enter Try.func52, Try.ntmps52
  go_wp2_with fail
  refine (sizeOfKind_calls op w).mono ?_
  rintro e w1 ⟨rfl, hb1⟩
  have HB1 := mkHid hb1
  rw [HSV.out.1, HSV.out.2, ← HN.out]
  clear hb1 d0
  go_wp2_with fail
  refine bodyPost_ret (v := .tuple #[.slice (some ⟨bl, off + a, none⟩) n (cap - a), .bool true]) (by simp [results, Try.results52, go_sem]) rfl ?_
  exact ⟨rfl, HB1.out⟩
set_option maxHeartbeats 800000 in
theorem addr_num (ws : List Int) (a : Nat) (bl off cap : Nat) (w : World) (d0 : w.cell? ⟨bl, off, none⟩ = some (.int .i64 (opW ws a))) (n : Nat) (hn : 0 < n) (hnc : n ≤ cap) (hc : cap ≤ 9223372036854775807) (h : isNumOp (opW ws a) = true) :
    Calls Try.prog 68 #[.slice (some ⟨bl, off, none⟩) n cap] w fun e w' => e = .returned (.slice none 0 0) ∧ w = w' := by
  have d0' : w.cell? ⟨bl, off + 0, none⟩ = some (.int .i64 (opW ws a)) := d0
  go_enter Try.func68, Try.ntmps68
  go_wp2_with fail
  refine (hasNumber_calls _ w).mono ?_
  rintro e w1 ⟨rfl, rfl⟩
  rw [h]
  go_wp2_with fail
  go_ret
  exact ⟨rfl, rfl⟩
set_option maxHeartbeats 800000 in
theorem addr_kids (ws : List Int) (a : Nat) (bl off cap : Nat) (w : World) (d0 : w.cell? ⟨bl, off, none⟩ = some (.int .i64 (opW ws a))) (n : Nat) (hn : 2 ≤ n) (hnc : n ≤ cap) (hc : cap ≤ 9223372036854775807) (h : isNumOp (opW ws a) = false) :
    Calls Try.prog 68 #[.slice (some ⟨bl, off, none⟩) n cap] w fun e w' => e = .returned (.slice (some ⟨bl, off + 1, none⟩) (n - 1) (cap - 1)) ∧ w = w' := by
  have hne : ¬ cap = 1 := by omega
  have hn0 : 0 < n := by omega
  have d0' : w.cell? ⟨bl, off + 0, none⟩ = some (.int .i64 (opW ws a)) := d0
  go_enter Try.func68, Try.ntmps68
  go_wp2_with fail
  refine (hasNumber_calls _ w).mono ?_
  rintro e w1 ⟨rfl, rfl⟩
  rw [h]
  go_wp2_with fail
  go_ret
  exact ⟨rfl, rfl⟩
set_option maxHeartbeats 800000 in
theorem startsOf_calls (ws : List Int) (v : Value) (w : World) (hk : IIn w ws v) (hl : ws.length ≤ 1048576) :
    Calls Try.prog 64 #[v] w fun e w' => ∃ t, e = .returned (.tuple #[t, .bool (startsW ws 0).isSome]) ∧ StkI w' w.heap.size ((startsW ws 0).getD []) t ∧ Below w.heap.size w w' := by
  have HK := mkHid hk
  obtain ⟨ad, cap, rfl, hlc, hm, -⟩ := hk
  unfold maxLen at hm
  go_enter Try.func64, Try.ntmps64
  go_wp2_with fail
  go_loopw [4, 5] (fun o a wr => ∃ (p : Nat) (acc : List Int), a = .int .i64 p ∧ p ≤ ws.length ∧ acc.length ≤ p ∧ startsW ws 0 = (startsW ws p).map (acc ++ ·) ∧ StkI wr w.heap.size acc o ∧ Below w.heap.size w wr) (fun _ a _ => ws.length - (intOf a).toNat)
  case atStart => exact ⟨0, [], rfl, Nat.zero_le _, Nat.le_refl _, by simp, StkI.none _ _, Below.refl _ _⟩
  case round =>
    obtain ⟨p, acc, rfl, hp, hal, heq, hst, hb⟩ := hrel
    obtain ⟨wo, rfl⟩ : ∃ wo : World, wo = wr := ⟨_, rfl⟩
    obtain ⟨ado, no, capo, rfl⟩ := hst.form
    have HS := mkHid hst
    have HB := mkHid hb
    have HEQ := mkHid heq
    have HAL := mkHid hal
    by_cases hlt : p < ws.length
    · obtain ⟨bl, off, rfl, -⟩ := HK.out.at p hlt
      clear hst hb heq hal
      by_cases hwh : WholeAt ws p
      · have hw2 := hwh.2
        have h4 := wLen_le (opW ws p)
        have h02 := wLen_pos hwh.1
        have HNE : Hid (startsW ws 0 = (startsW ws (p + wLen (opW ws p))).map ((acc ++ [(p : Int)]) ++ ·)) := by
          have h1 := hwh.1
          rw [Hid, HEQ.out, startsW_go hlt (by rw [← opW_at hlt]; omega), ← opW_at hlt, Option.map_map]
          congr 1
          funext x
          simp
        have HWH := mkHid hwh
        clear hwh
        go_wp2_with fail
        refine (wordsAt_yes ws p bl off cap wo (HK.out.next HB.out) hlt HWH.out hl).mono ?_
        rintro e w5 ⟨rfl, hb5⟩
        have HB5 : Hid (Below w.heap.size w w5) := HB.out.trans (hb5.mono HB.out.size)
        have HS5 := mkHid (StkI.next HS.out hb5)
        obtain ⟨n, hn⟩ : ∃ n : Nat, n = wLen (opW ws p) := ⟨_, rfl⟩
        rw [← hn] at hw2 h4 h02 HNE ⊢
        clear hb5 hn
        have A1 : Hid (StkI (w5.alloc (.cells #[.int .i64 (p : Int)] 3)) w.heap.size (acc) (.slice ado no capo)) := StkI.alloc HS5.out _
        have K1 : Hid (IIn (w5.alloc (.cells #[.int .i64 (p : Int)] 3)) [(p : Int)] (.slice (some ⟨w5.heap.size, 0, none⟩) 1 1)) := oneI_in w5 (p : Int)
        have L1 : Hid (w.heap.size ≤ (w5.alloc (.cells #[.int .i64 (p : Int)] 3)).heap.size) := by rw [Hid, Deep.nblk_alloc]; have := HB5.out.size; omega
        go_wp2_with (have tk := A1; clear tk; at_builtin; go_must (refine wpList_pushI rfl _ _ rfl _ w.heap.size (acc) [(p : Int)] (.slice ado no capo) (.slice (some ⟨w5.heap.size, 0, none⟩) 1 1) rfl A1.out rfl K1.out L1.out (by have := HAL.out; simp; omega) ?_); go_must (intro v1 w7 hst1 hg1); go_must (have HB7 : Hid (Below w.heap.size w w7) := StkI.grown A1.out rfl (HB5.out.alloc HB5.out.size _) hg1); go_must (have HS7 : Hid (StkI w7 w.heap.size (acc ++ [(p : Int)]) v1) := by exact hst1); go_must (obtain ⟨ad1, n1, cap1, rfl⟩ := hst1.form); clear hst1 hg1)
        go_roundw
        case rel => first | exact ⟨p + n, acc ++ [(p : Int)], by go_num, by omega, by have := HAL.out; simp; omega, HNE.out, HS7.out, HB7.out⟩ | ((repeat apply Exists.intro); exact ⟨⟨p + n, acc ++ [(p : Int)], by go_num, by omega, by have := HAL.out; simp; omega, HNE.out, HS7.out, HB7.out⟩, rfl⟩)
        case measure => simp [intOf]; omega
      · have HV : Hid (startsW ws 0 = none) := by
          rw [Hid, HEQ.out, startsW_bad hlt (by unfold WholeAt at hwh; rw [opW_at hlt] at hwh; omega)]; rfl
        have HWH := mkHid hwh
        clear hwh
        go_wp2_with fail
        refine (wordsAt_no ws p _ wo (HK.out.next HB.out) hlt HWH.out hl).mono ?_
        rintro e w5 ⟨rfl, hb5⟩
        have HB5 : Hid (Below w.heap.size w w5) := HB.out.trans (hb5.mono HB.out.size)
        clear hb5
        go_wp2_with fail
        refine bodyPost_ret (v := .tuple #[.slice none 0 0, .bool false]) (by simp [results, Try.results64, go_sem]) rfl ?_
        rw [HV.out]
        exact ⟨_, rfl, StkI.none _ _, HB5.out⟩
    · have HV : Hid (startsW ws 0 = some acc) := by rw [Hid, HEQ.out, startsW_end (by omega)]; simp
      clear hst hb heq hal
      go_wp2_with fail
      refine bodyPost_ret (v := .tuple #[.slice ado no capo, .bool true]) (by simp [results, Try.results64, go_sem]) rfl ?_
      rw [HV.out]
      exact ⟨_, rfl, HS.out, HB.out⟩

/-- are all of these addresses there? -/
def plcB (st xs : List Int) : Bool := xs.all fun x => decide (0 ≤ idxI st x)
/-- their places, or none -/
def plcL (st xs : List Int) : List Int := if plcB st xs = true then xs.map (idxI st) else []
theorem plcL_yes {st xs : List Int} (h : plcB st xs = true) : plcL st xs = xs.map (idxI st) := by unfold plcL; rw [if_pos h]
theorem plcL_no {st xs : List Int} (h : plcB st xs = false) : plcL st xs = [] := by unfold plcL; rw [if_neg (by rw [h]; simp)]
theorem plcB_no {st xs : List Int} {q : Nat} (h : q < xs.length) (hi : ¬ 0 ≤ idxI st xs[q]) : plcB st xs = false := by
  unfold plcB; rw [List.all_eq_false]; exact ⟨xs[q], List.getElem_mem h, by simpa using hi⟩
theorem plcB_snoc {st xs : List Int} {q : Nat} (h : q < xs.length) (hi : 0 ≤ idxI st xs[q]) (ht : plcB st (xs.take q) = true) : plcB st (xs.take (q + 1)) = true := by
  unfold plcB at ht ⊢
  rw [List.take_succ_eq_append_getElem h, List.all_append, ht]; simpa using hi
set_option maxHeartbeats 800000 in
theorem placesIn_calls (st xs : List Int) (sv xv : Value) (w : World) (hs : IIn w st sv) (hx : IIn w xs xv) (ho : st.Pairwise (· < ·)) (hl : st.length ≤ 1048576) (hl2 : xs.length ≤ 1048576) :
    Calls Try.prog 65 #[sv, xv] w fun e w' => ∃ t, e = .returned (.tuple #[t, .bool (plcB st xs)]) ∧ StkI w' w.heap.size (plcL st xs) t ∧ Below w.heap.size w w' := by
  have HST := mkHid hs
  have HXS := mkHid hx
  have HO := mkHid ho
  obtain ⟨ads, caps, rfl, -, -, -⟩ := hs
  obtain ⟨ad, cap, rfl, hlc, hm, -⟩ := hx
  unfold maxLen at hm
  clear ho
  go_enter Try.func65, Try.ntmps65
  go_wp2_with fail
  go_loopw [6, 13] (fun o a wr => ∃ q : Nat, a = .int .i64 q ∧ q ≤ xs.length ∧ plcB st (xs.take q) = true ∧ StkI wr w.heap.size ((xs.take q).map (idxI st)) o ∧ Below w.heap.size w wr) (fun _ a _ => xs.length - (intOf a).toNat)
  case atStart => exact ⟨0, rfl, Nat.zero_le _, by simp [plcB], StkI.none _ _, Below.refl _ _⟩
  case round =>
    obtain ⟨q, rfl, hq, hall, hst, hb⟩ := hrel
    obtain ⟨wo, rfl⟩ : ∃ wo : World, wo = wr := ⟨_, rfl⟩
    obtain ⟨ado, no, capo, rfl⟩ := hst.form
    have HS := mkHid hst
    have HB := mkHid hb
    have HAL := mkHid hall
    by_cases hlt : q < xs.length
    · obtain ⟨bl, off, rfl, d0w⟩ := HXS.out.at q hlt
      have d0 := (hb.cell (p := ⟨bl, off + q, none⟩) (cell_lt d0w)).trans d0w
      obtain ⟨ys, hys⟩ : ∃ ys, ys = (xs.take q).map (idxI st) := ⟨_, rfl⟩
      have HYL : Hid (ys.length ≤ 1048575) := by rw [hys, Hid]; simp; omega
      obtain ⟨x, hx⟩ : ∃ x, x = xs[q] := ⟨_, rfl⟩
      have HN : Hid ((xs.take (q + 1)).map (idxI st) = ys ++ [idxI st x]) := by
        rw [Hid, List.take_succ_eq_append_getElem hlt, List.map_append, ← hys, hx]; rfl
      have HNX : Hid (¬ 0 ≤ idxI st x → plcB st xs = false) := fun h => plcB_no hlt (by rw [← hx]; exact h)
      have HYX : Hid (0 ≤ idxI st x → plcB st (xs.take (q + 1)) = true) := fun h => plcB_snoc hlt (by rw [← hx]; exact h) HAL.out
      rw [← hys] at HS
      rw [← hx] at d0
      clear hst hb hall d0w hys hx
      go_wp2_with fail
      refine (search_calls st x _ wo (HST.out.next HB.out) HO.out hl).mono ?_
      rintro e w5 ⟨i, rfl, hi, rfl⟩
      by_cases h0 : 0 ≤ idxI st x
      · have hd : decide (0 ≤ idxI st x) = true := by simpa using h0
        obtain rfl := hi h0
        rw [hd]
        have HP := mkHid (HYX.out h0)
        clear hi h0 hd d0
        have A1 : Hid (StkI (wo.alloc (.cells #[.int .i64 (idxI st x)] 3)) w.heap.size (ys) (.slice ado no capo)) := StkI.alloc HS.out _
        have K1 : Hid (IIn (wo.alloc (.cells #[.int .i64 (idxI st x)] 3)) [(idxI st x)] (.slice (some ⟨wo.heap.size, 0, none⟩) 1 1)) := oneI_in wo (idxI st x)
        have L1 : Hid (w.heap.size ≤ (wo.alloc (.cells #[.int .i64 (idxI st x)] 3)).heap.size) := by rw [Hid, Deep.nblk_alloc]; have := HB.out.size; omega
        go_wp2_with (have tk := A1; clear tk; at_builtin; go_must (refine wpList_pushI rfl _ _ rfl _ w.heap.size (ys) [(idxI st x)] (.slice ado no capo) (.slice (some ⟨wo.heap.size, 0, none⟩) 1 1) rfl A1.out rfl K1.out L1.out (by have := HYL.out; simp; omega) ?_); go_must (intro v1 w7 hst1 hg1); go_must (have HB7 : Hid (Below w.heap.size w w7) := StkI.grown A1.out rfl (HB.out.alloc HB.out.size _) hg1); go_must (have HS7 : Hid (StkI w7 w.heap.size ((xs.take (q + 1)).map (idxI st)) v1) := by rw [HN.out]; exact hst1); go_must (obtain ⟨ad1, n1, cap1, rfl⟩ := hst1.form); clear hst1 hg1)
        go_roundw
        case rel => first | exact ⟨q + 1, by go_num, by omega, HP.out, HS7.out, HB7.out⟩ | ((repeat apply Exists.intro); exact ⟨⟨q + 1, by go_num, by omega, HP.out, HS7.out, HB7.out⟩, rfl⟩)
        case measure => simp [intOf]; omega
      · have hd : decide (0 ≤ idxI st x) = false := by simpa using h0
        rw [hd]
        have HP := mkHid (HNX.out (by omega))
        clear hi h0 hd d0
        go_wp2_with fail
        refine bodyPost_ret (v := .tuple #[.slice none 0 0, .bool false]) (by simp [results, Try.results65, go_sem]) rfl ?_
        rw [HP.out, plcL_no HP.out]
        exact ⟨_, rfl, StkI.none _ _, HB.out⟩
    · have hqe : q = xs.length := by omega
      have HV : Hid (plcB st xs = true) := by have h := HAL.out; rw [hqe, List.take_length] at h; exact h
      have HS2 : Hid (StkI wo w.heap.size (xs.map (idxI st)) (.slice ado no capo)) := by have h := HS.out; rw [hqe, List.take_length] at h; exact h
      clear hst hb hall hqe
      go_wp2_with fail
      refine bodyPost_ret (v := .tuple #[.slice ado no capo, .bool true]) (by simp [results, Try.results65, go_sem]) rfl ?_
      rw [HV.out, plcL_yes HV.out]
      exact ⟨_, rfl, HS2.out, HB.out⟩
end Go.Proofs.Ytiipcgnkfhjpeaa
