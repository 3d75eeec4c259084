/-
  THE PROGRAM's copyFrom: what can be reached from some cells, copied.
-/
import Derived.Test.YtjpjikfmdaejeabImplFall
namespace Go.Proofs.Ytjpjikfmdaejeab
set_option linter.unusedVariables false
set_option linter.unusedSimpArgs false
open Go.RowKit Go.Maps

/-- the operands of copy i, which is not scanned -/
theorem CpG.kid {w : World} {lo : Nat} {S : Nat → Prop} {g : List Ce} {o : List Nat} {i : Nat} {v : Value} (h : CpG w lo S g o i v) (j : Nat) (hj : j < o.length) : ∃ b cap kv, v = .slice (some ⟨b, 0, none⟩) o.length cap ∧ lo ≤ b ∧ o.length ≤ cap ∧ cap ≤ maxLen ∧ b < w.heap.size ∧
    w.cell? ⟨b, j * 3 + 2, none⟩ = some kv ∧ w.frozen? ⟨b, j * 3 + 2, none⟩ = false ∧ w.cell? ⟨b, j * 3, none⟩ = some (.int .i64 (opAt g (o.getD j 0))) ∧ (¬ j < i → IntsOn w (Lt lo) (plI (kidsN g (o.getD j 0))) kv) := by
  obtain ⟨xs, kb, h1, h2, -⟩ := h
  obtain ⟨-, -, kv, e0, -, e2, e3⟩ := h2 j hj
  have hlen := h1.1
  rcases h1.2 with ⟨-, h0⟩ | ⟨b, cap, cur, rfl, hg, hh, hn, hc, hs, htk⟩
  · omega
  · have get : ∀ m u, m < o.length * 3 → xs[m]? = some u → cur[m]? = some u := by
      intro m u hm hu
      rw [← htk, List.getElem?_take_of_lt hm] at hu
      simpa using hu
    exact ⟨b, cap, kv, rfl, hg, hn, hc, (Array.getElem?_eq_some_iff.1 hh).1, cell_of_blk hh _ _ (get _ _ (by omega) e2), frz_of_blk hh _, cell_of_blk hh _ _ (get _ _ (by omega) e0), e3.2⟩
/-- a copy is scanned -/
theorem CopW.scan {C M lo lo' : Nat} {g : List Ce} {fv : Value} {o : List Nat} {i b cap : Nat} {U V : Nat → Prop} {ov pv : Value} {w : World} (h : CopW C M lo g fv o i U (.slice (some ⟨b, 0, none⟩) o.length cap) ov w) (hi : i < o.length)
    (hst : Stk w lo' ((kidsN g (o.getD i 0)).map (posN o)) pv) (hn : ∀ k, some k = pv.ownBlock → ¬ U k) (hV : ∀ k, U k ∨ some k = pv.ownBlock → k < w.heap.size → V k) : CopW C M lo g fv o (i + 1) V (.slice (some ⟨b, 0, none⟩) o.length cap) ov (w.setCell ⟨b, i * 3 + 2, none⟩ pv) := by
  obtain ⟨xs, hx⟩ := h.cells.row
  have hbl : lo ≤ b := own_block hx rfl
  have hbc : ∃ D, w.heap[b]? = some (.cells D 60 (0, 0)) := by
    rcases hx.2 with ⟨e, -⟩ | ⟨b2, cap2, cur, e, -, hh, -⟩
    · cases e
    · cases e; exact ⟨_, hh⟩
  obtain ⟨D, hD⟩ := hbc
  have hbs : b < w.heap.size := (Array.getElem?_eq_some_iff.1 hD).1
  have keep : ∀ k, k ≠ b → (w.setCell ⟨b, i * 3 + 2, none⟩ pv).heap[k]? = w.heap[k]? := fun k hk => Below.heap_setCell _ _ _ _ hk
  have hbC : C ≠ b := fun e => by
    have hb := h.box
    rw [e, hD] at hb
    simp only [Option.some.injEq, Obj.cells.injEq] at hb
    exact copier_ne_cell hb.2.1.symm
  have hV0 : ∀ k, U k → k < w.heap.size → V k := fun k hk hkl => hV k (Or.inl hk) hkl
  have hz : (w.setCell ⟨b, i * 3 + 2, none⟩ pv).heap.size = w.heap.size := size_setCell _ _ _
  refine ⟨(keep C hbC).trans h.box, ?_, ?_, h.map.of_block (keep M (fun e => h.map.ne_row hD e.symm)), fun k e => hV0 k (h.gU k e) (own_some hx k e.symm).2, fun k e => hV0 k (h.oU k e) (own_some h.order k e.symm).2, hV0 C h.cU h.lt, hV0 M h.mU h.map.lt, h.cl, h.ml, h.src.mono (fun _ h => h) fun k (hk : k < lo) => keep k (by omega)⟩
  · obtain ⟨blk, hb1, hb2⟩ : ∃ blk, (¬ ((U blk ∧ some blk ≠ ov.ownBlock) ∧ blk < w.heap.size)) ∧ (KRowS w (fun x => x = blk) ((kidsN g (o.getD i 0)).map fun k => (posN o k : Int)) blk pv ∧ (blk < w.heap.size → some blk = pv.ownBlock)) := by
      obtain ⟨blk, h1, h2⟩ := stk_krow hst
      rw [List.map_map] at h2
      by_cases he : (kidsN g (o.getD i 0)).map (posN o) = []
      · obtain ⟨ad, cap, e, l1, l2, -⟩ := h2
        exact ⟨w.heap.size, fun h => by have := h.2; omega, ⟨ad, cap, e, l1, l2, Or.inl (by simpa using he)⟩, fun h => by omega⟩
      · exact ⟨blk, fun h => hn blk (h1 he).symm h.1.1, h2, fun _ => (h1 he).symm⟩
    have hs := (h.cells.next (S' := fun k => (U k ∧ some k ≠ ov.ownBlock) ∧ k < w.heap.size) (fun k hk hkl => ⟨hk, hkl⟩) (fun _ _ _ => rfl) (fun _ _ _ _ _ => rfl) (fun _ _ => rfl)).scan hi hb2.1 hb1
    refine hs.next (fun k hk hkl => ?_) (fun _ _ _ => rfl) (fun _ _ _ _ _ => rfl) (fun _ _ => rfl)
    rw [hz] at hkl
    rcases hk with hk | rfl
    · exact ⟨hV k (Or.inl hk.1.1) hkl, hk.1.2⟩
    · have e := hb2.2 hkl
      exact ⟨hV k (Or.inr e) hkl, fun e2 => hn k e (h.oU k e2)⟩
  · exact h.order.only fun k e hk => keep k fun e2 => own_ne_cells (CC := []) h.order hD (by decide) (e2 ▸ e)

/-- what copyFrom leaves: the copies, their order, and the places of the roots, in rows of their own -/
def CopyDone (g : List Ce) (rs : List Nat) (w : World) (e : Ending) (w' : World) : Prop :=
  ∃ (C M : Nat) (fv gv ov tv : Value) (S : Nat → Prop), e = .returned (.tuple #[.pointer (some ⟨C, 0, none⟩), tv]) ∧ w.heap.size ≤ C ∧ w'.heap[C]? = some (.cells #[fv, gv, .map (some M), ov] 70) ∧
    OwnC w' w.heap.size S (copyG g rs) gv ∧ (∀ k, S k → w.heap.size ≤ k ∧ some k ≠ tv.ownBlock) ∧ Stk w' w.heap.size (orderG g rs) ov ∧ Stk w' w.heap.size (topsG g rs) tv ∧ Below w.heap.size w w'
/-- what holds when i copies have been scanned -/
structure CfRel (C M : Nat) (g : List Ce) (rs : List Nat) (fv tv : Value) (w : World) (i : Nat) (o : List Nat) (gv ov : Value) (wr : World) : Prop where
  ord : OrdRel g rs i o
  pre : visitL [] rs <+: o
  cop : CopW C M w.heap.size g fv o i (fun k => w.heap.size ≤ k ∧ some k ≠ tv.ownBlock) gv ov wr
  tops : Stk wr w.heap.size (rs.map (posN (visitL [] rs))) tv
  bel : Below w.heap.size w wr

set_option maxRecDepth 100000 in
set_option maxHeartbeats 3200000 in
theorem copyFrom_calls (g : List Ce) (rs : List Nat) (fv rv : Value) (w : World) (hk : CIn w g fv) (hr : IIn w (plI rs) rv) (hg : graphB g 6 = true) (hlt : ∀ x ∈ rs, x < g.length) (h20 : rs.length ≤ 20) :
    Calls Try.prog 37 #[fv, rv] w (CopyDone g rs w) := by
  have HG := mkHid hg
  have HLT := mkHid hlt
  have h400 : g.length ≤ 400 := graphB_len hg
  have HR := mkHid hr
  have hmm := @run_makeMap Try.prog
  obtain ⟨adf, capf, rfl, -, -, -⟩ := id hk
  obtain ⟨w1, hw1⟩ : ∃ w1 : World, w1 = (w.alloc (.map #[] 0)).alloc (.cells #[.slice adf g.length capf, .slice none 0 0, .map (some w.heap.size), .slice none 0 0] 70) := ⟨_, rfl⟩
  have HW1 := mkHid hw1
  have hz1 : w1.heap.size = w.heap.size + 2 := by rw [hw1, Deep.nblk_alloc, Deep.nblk_alloc]
  have hb1 : Below w.heap.size w w1 := by rw [hw1]; exact ((Below.refl _ _).alloc (Nat.le_refl _) _).alloc (by simp) _
  have HB1 := mkHid hb1
  have HCW : Hid (CopW (w.heap.size + 1) w.heap.size w.heap.size g (.slice adf g.length capf) [] 0 (fun k => w.heap.size ≤ k) (.slice none 0 0) (.slice none 0 0) w1) := by
    refine ⟨?_, CpG.nil _ _ _ _, World.ownsRow_nil _ _ _ _, ?_, fun k e => by simp [Value.ownBlock] at e, fun k e => by simp [Value.ownBlock] at e, by omega, Nat.le_refl _, by omega, Nat.le_refl _, hk.mono (fun _ h => h) fun k hk => hb1.block k hk⟩
    · have h := Deep.blk_alloc_new (w.alloc (.map #[] 0)) (.cells #[.slice adf g.length capf, .slice none 0 0, .map (some w.heap.size), .slice none 0 0] 70)
      rw [Deep.nblk_alloc] at h
      rw [hw1]; exact h
    · rw [hw1]; exact (MapN.made w).of_block (Deep.blk_alloc_lt _ _ _ (by rw [Deep.nblk_alloc]; omega))
  have HRL : Hid (IntsOn w1 (Lt w.heap.size) (plI rs) rv) := hr.mono (fun _ h => h) fun k hk => hb1.block k hk
  clear hk hr hg hlt hw1 hb1
  go_enter Try.func37, Try.ntmps37
  go_wp2_with fail
  rw [← HW1.out]
  refine (forwardAll_calls (w.heap.size + 1) w.heap.size w.heap.size g (.slice adf g.length capf) [] 0 rs rv (fun k => w.heap.size ≤ k) _ _ w1 HCW.out (by omega) HG.out (Cs.nil _) (Nat.zero_le _) (fun j hj => absurd hj (by omega)) HLT.out (by omega) (fun _ h => h) HRL.out).mono ?_
  rintro e w2 ⟨tv, gv2, ov2, rfl, hst2, hc2, hb2⟩
  have HST : Hid (CfRel (w.heap.size + 1) w.heap.size g rs (.slice adf g.length capf) tv w 0 (visitL [] rs) gv2 ov2 w2) :=
    ⟨OrdRel.start HLT.out, List.prefix_refl _, hc2.next (fun k hk _ => ⟨by rcases hk.1 with h | h; exact h; omega, hk.2⟩) (fun _ _ _ => rfl) (fun _ _ => rfl), hst2.lower (by omega), HB1.out.trans (hb2.below (fun _ h => h) (by omega))⟩
  clear hst2 hc2 hb2
  go_wp2_with fail
  go_loopw [8] (fun z wr => ∃ (i : Nat) (o : List Nat) (gv ov : Value), z = .int .i64 i ∧ CfRel (w.heap.size + 1) w.heap.size g rs (.slice adf g.length capf) tv w i o gv ov wr) (fun z _ => g.length - (intOf z).toNat)
  case atStart => exact ⟨0, _, _, _, rfl, HST.out⟩
  case round =>
    obtain ⟨i, o, gv, ov, rfl, hr⟩ := hrel
    have HR := mkHid hr
    have hol := hr.ord.cs.len
    have hile := hr.ord.le
    have c1 := cell_of_blk hr.cop.box 1 _ rfl
    have hzr := hr.bel.size
    by_cases hlt : i < o.length
    · obtain ⟨b, cap, kv, rfl, hbl, -, -, hbs, k2, -, -, hkv⟩ := hr.cop.cells.kid i hlt
      have hkv := hkv (by omega)
      obtain ⟨a, ha⟩ : ∃ a, a = o.getD i 0 := ⟨_, rfl⟩
      have HA := mkHid ha
      have hal : a < g.length := by rw [ha, getD_at _ _ _ hlt]; exact hr.ord.lt _ (List.getElem_mem hlt)
      rw [← ha] at hkv
      obtain ⟨adk, capk, rfl, -, -⟩ := pl_form (hkv.mono (S' := Lt wr.heap.size) (fun k (hk : k < w.heap.size) => Nat.lt_of_lt_of_le hk hzr) fun _ _ => rfl)
      have hk3 := kidsN_len HG.out a hal
      have HCALL : Hid (Calls Try.prog 60 #[.pointer (some ⟨w.heap.size + 1, 0, none⟩), .slice adk (kidsN g a).length capk] wr (FwdAll (w.heap.size + 1) w.heap.size w.heap.size g (.slice adf g.length capf) o i (kidsN g a) (fun k => w.heap.size ≤ k ∧ some k ≠ tv.ownBlock) wr)) :=
        forwardAll_calls (w.heap.size + 1) w.heap.size w.heap.size g (.slice adf g.length capf) o i (kidsN g a) _ _ _ _ wr hr.cop hzr HG.out hr.ord.cs hr.ord.le hr.ord.cl (fun x hx => kidsN_lt HG.out a hal x hx) (by omega) (fun k hk => hk.1) hkv
      clear hr hkv ha
      go_wp2_with fail
      refine HCALL.out.mono ?_
      rintro e w3 ⟨pv, gv3, ov3, rfl, hst3, hc3, hb3⟩
      have hlt3 : i < (visitL o (kidsN g a)).length := Nat.lt_of_lt_of_le hlt (visitL_pre _ _).length_le
      obtain ⟨b3, cap3, kv3, rfl, hbl3, hcl3, hcm3, hbs3, k23, kf3, -, -⟩ := hc3.cells.kid i hlt3
      have d1 := cell_of_blk hc3.box 1 _ rfl
      have hgd : (visitL o (kidsN g a)).getD i 0 = a := by rw [getD_pre (visitL_pre _ _) hlt]; exact HA.out.symm
      have hzw3 := hb3.size
      have HNX : Hid (CfRel (w.heap.size + 1) w.heap.size g rs (.slice adf g.length capf) tv w (i + 1) (visitL o (kidsN g a)) (.slice (some ⟨b3, 0, none⟩) (visitL o (kidsN g a)).length cap3) ov3 (w3.setCell ⟨b3, i * 3 + 2, none⟩ pv)) := by
        have htl : ∀ k, some k = tv.ownBlock → k < wr.heap.size := fun k e => (own_some HR.out.tops k e.symm).2
        have hpl : ∀ k, some k = pv.ownBlock → wr.heap.size ≤ k := fun k e => (own_some hst3 k e.symm).1
        refine ⟨?_, HR.out.pre.trans (visitL_pre _ _), ?_, ?_, ?_⟩
        · have h := HR.out.ord.step HG.out hlt
          rw [← HA.out] at h; exact h
        · refine hc3.scan hlt3 (by rw [hgd]; exact hst3) (fun k e h => h.2 e) (fun k hk hkl => ?_)
          rcases hk with hk | hk
          · rcases hk.1 with h | h
            · exact h
            · exact ⟨by omega, fun e => by have := htl k e; omega⟩
          · exact ⟨by have := hpl k hk; omega, fun e => by have := htl k e; have := hpl k hk; omega⟩
        · refine HR.out.tops.only fun k e hk => ?_
          rw [Below.heap_setCell _ _ _ _ (by
            intro e2
            have h2 := hc3.gU b3 rfl
            have h3 : b3 = k := e2.symm
            subst h3
            have := htl _ e
            rcases h2.1 with h2 | h2
            · exact h2.2 e
            · omega)]
          exact hb3.block k hk fun h => h.2 e
        · exact (HR.out.bel.trans (hb3.below (fun k hk => hk.1) hzr)).setCell hbl3 _
      obtain ⟨adp, capp, rfl⟩ : ∃ ad cap, pv = .slice ad (kidsN g a).length cap := by
        obtain ⟨x, y, e⟩ := hst3.len
        rw [List.length_map] at e; exact ⟨x, y, e⟩
      have HB3 := mkHid hb3
      clear hst3 hc3 hb3 hgd k2
      go_wp2_with fail
      go_roundw
      case rel => exact ⟨i + 1, _, _, _, by go_num, HNX.out⟩
      case measure => simp [intOf]; omega
    · obtain ⟨adg, capg, rfl⟩ := hr.cop.cells.form
      have HV : Hid (CopyDone g rs w (.returned (.tuple #[.pointer (some ⟨w.heap.size + 1, 0, none⟩), tv])) wr) := by
        have hf := hr.ord.fin hlt
        refine ⟨_, _, _, _, ov, tv, fun k => (w.heap.size ≤ k ∧ some k ≠ tv.ownBlock) ∧ some k ≠ ov.ownBlock, rfl, by omega, hr.cop.box, ?_, fun k hk => hk.1, ?_, ?_, hr.bel⟩
        · have h := hr.cop.cells.done (by omega)
          unfold copyG
          rw [← hf]; exact h
        · rw [← hf]; exact hr.cop.order
        · unfold topsG
          have e : rs.map (posN (orderG g rs)) = rs.map (posN (visitL [] rs)) := List.map_congr_left fun x hx => by
            rw [← hf]; exact posN_pre hr.pre (visitL_mem _ _ _ hx)
          rw [e]; exact hr.tops
      clear hr
      go_wp2_with fail
      go_ret2
      exact HV.out
end Go.Proofs.Ytjpjikfmdaejeab
