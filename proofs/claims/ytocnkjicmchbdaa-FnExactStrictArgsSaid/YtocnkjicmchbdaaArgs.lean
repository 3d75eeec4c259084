/-
  THE MODEL's l2Args: the function of nested applications, and its arguments in order; nothing that was there is changed.
-/
import Derived.Test.YtocnkjicmchbdaaUnwind
namespace Go.Proofs.Ytocnkjicmchbdaa
set_option linter.unusedVariables false
set_option linter.unusedSimpArgs false
open Go.RowKit

/-- what holds on the way down -/
def ARel (w : World) (a : Tr) (c : Value) (v : Value) (wr : World) : Prop :=
  ∃ (t : Tr) (ct : Value) (l : List Cd), Unw w a c t ct l ∧ wr.rowIs w.heap.size 31 3 (boxF t.op t.num ct) ∧ wr.rowIs (w.heap.size + 1) 31 3 (boxF 0 0 (.slice none 0 0)) ∧
    wr.ownsRow (w.heap.size + 2) 31 3 v l.length (cdCells l.reverse) ∧ (∃ g cap, v = .slice (some ⟨g, 0, none⟩) l.length cap) ∧ Below w.heap.size w wr

theorem cdCells_length (l : List Cd) : (cdCells l).length = l.length * 3 := by
  induction l with
  | nil => rfl
  | cons d l ih =>
    show ([d.2.1, d.2.2.1, d.2.2.2] ++ cdCells l).length = _
    rw [List.length_append, ih]
    simp
    omega
theorem own_cells {w : World} {base n size g cap : Nat} {e : TypeId} {xs : List Value} (h : w.ownsRow base e size (.slice (some ⟨g, 0, none⟩) n cap) n xs) (j : Nat) (u : Value) (hu : xs[j]? = some u) : w.cell? ((⟨g, 0, none⟩ : Addr).add j) = some u := by
  rw [WideShapes.add_plain, Nat.zero_add]
  rcases h.2 with ⟨h, -⟩ | ⟨g', cap', cur, e, hg, hh, hn, hc, hs, htk⟩
  · cases h
  · cases e
    have hlt : j < n * size := by
      have := (List.getElem?_eq_some_iff.1 hu).1
      rw [h.1] at this
      exact this
    rw [← htk, List.getElem?_take_of_lt hlt, Array.getElem?_toList] at hu
    simp only [World.cell?, hh]
    exact hu

set_option maxRecDepth 100000 in
set_option maxHeartbeats 800000 in
theorem l2Args_calls (a : Tr) (c : Value) (w : World) (hk : In w a.kids c) (ha : I64 a.op ∧ I64 a.num) (hz : szT a ≤ 1099511627776) :
    Calls Try.prog 94 #[.agg #[.int .i64 a.op, .int .i64 a.num, c]] w fun e w' => ∃ (t : Tr) (ct : Value) (l : List Cd) (v : Value), e = .returned (.tuple #[.agg #[.int .i64 t.op, .int .i64 t.num, ct], v]) ∧ Unw w a c t ct l ∧ ¬ (t.op = 4 ∧ t.kids.length = 2) ∧ CdRow w' w.heap.size l.reverse v ∧ Below w.heap.size w w' := by
  have HK : Hid (In w a.kids c) := hk
  have HA : Hid (I64 a.op ∧ I64 a.num) := ha
  obtain ⟨ad, cap, rfl, -, -, -⟩ := hk
  clear ha
  go_enter Try.func94, Try.ntmps94
  go_wp2_with fail
  obtain ⟨iE, zE, hiE, hzE, hsE, hbE, hcE⟩ := infoE3
  have HE : Hid (Try.prog.info? 31 = some iE ∧ iE.zero = some zE ∧ iE.size = 3 ∧ iE.bytes = 40 ∧ zE.cells.size = 3) := ⟨hiE, hzE, hsE, hbE, hcE⟩
  clear hiE hzE hsE hbE hcE
  go_loopw [4] (fun v wr => ARel w a (.slice ad a.kids.length cap) v wr) (fun v _ => szT a - slLen v)
  case atStart =>
    refine ⟨a, _, [], Unw.here, ?_, ?_, ?_, ⟨_, _, rfl⟩, ?_⟩
    · exact ((World.rowIs_alloc w #[.int .i64 a.op, .int .i64 a.num, .slice ad a.kids.length cap] 31 (boxF a.op a.num (.slice ad a.kids.length cap)) (box3 _ _ _)).alloc _).alloc _
    · have h := World.rowIs_alloc (w.alloc (.cells #[.int .i64 a.op, .int .i64 a.num, .slice ad a.kids.length cap] 31)) #[.int .i64 0, .int .i64 0, .slice none 0 0] 31 (boxF 0 0 (.slice none 0 0)) (box3 _ _ _)
      rw [Deep.nblk_alloc] at h
      exact h.alloc _
    · have h := Deep.blk_alloc_new ((w.alloc (.cells #[.int .i64 a.op, .int .i64 a.num, .slice ad a.kids.length cap] 31)).alloc (.cells #[.int .i64 0, .int .i64 0, .slice none 0 0] 31)) (.cells #[] 31)
      rw [Deep.nblk_alloc, Deep.nblk_alloc] at h
      exact ⟨rfl, Or.inr ⟨_, 0, #[], rfl, Nat.le_refl _, h, Nat.le_refl _, by unfold maxLen; omega, rfl, rfl⟩⟩
    · exact (((Below.refl _ _).alloc (Nat.le_refl _) _).alloc (by simp) _).alloc (by simp; omega) _
  case round =>
    obtain ⟨t, ct, l, hu, hbox, hres, hown, ⟨g, capg, rfl⟩, hb⟩ := hrel
    have HRs : Hid (wr.rowIs (w.heap.size + 1) 31 3 (boxF 0 0 (.slice none 0 0))) := hres
    have HU : Hid (Unw w a (.slice ad a.kids.length cap) t ct l) := hu
    have HBx : Hid (wr.rowIs w.heap.size 31 3 (boxF t.op t.num ct)) := hbox
    have HB : Hid (Below w.heap.size w wr) := hb
    have HO : Hid (wr.ownsRow (w.heap.size + 2) 31 3 (.slice (some ⟨g, 0, none⟩) l.length capg) l.length (cdCells l.reverse)) := hown
    obtain ⟨hkt, hot, hnt, hlt, hsz⟩ := hu.on HK.out HA.out
    have c0 := hbox.cell (i := 0) (by omega)
    have c1 := hbox.cell (i := 1) (by omega)
    have c2 := hbox.cell (i := 2) (by omega)
    simp only [boxF, if_pos, if_neg, show (1 : Nat) ≠ 0 from by omega, show (2 : Nat) ≠ 0 from by omega, show (2 : Nat) ≠ 1 from by omega] at c0 c1 c2
    have fz := hbox.frozen
    have hlo : w.heap.size + 2 ≤ wr.heap.size := by
      have := hres.lt; omega
    clear hu hbox hb hown hres
    obtain ⟨act, capt, rfl, hl1, hl2, -⟩ := id hkt
    unfold maxLen at hl2
    have hgl : Hid (w.heap.size + 2 ≤ g) := own_block HO.out rfl
    have hfm : Hid (∀ u ∈ cdCells l.reverse, u.oneCell' = true) := by
      intro u hu
      simp only [cdCells, List.mem_flatMap, List.mem_reverse] at hu
      obtain ⟨d, hd, hu⟩ := hu
      obtain ⟨e1, e2, -, -, ad', c', e3, -⟩ := trOn_iff.1 (hlt d hd)
      simp only [List.mem_cons, List.not_mem_nil, or_false] at hu
      rcases hu with rfl | rfl | rfl
      · rw [e1]; rfl
      · rw [e2]; rfl
      · rw [e3]; rfl
    clear hlt
    by_cases ho : t.op = 4
    · by_cases hlen : t.kids.length = 2
      · obtain ⟨f, x, hkk⟩ : ∃ f x, t.kids = [f, x] := by
          match hks : t.kids, hlen with
          | [f, x], _ => exact ⟨f, x, rfl⟩
        have HT : Hid (t.op = 4 ∧ t.kids = [f, x]) := ⟨ho, hkk⟩
        rw [hkk] at hkt
        obtain ⟨bl, off, cap', p, q, cf, u, v, r, e, -, -, hS, hrow, h0, h1, h2, h3, g0, g1, g2, g3⟩ := hkt.two
        simp only [Value.slice.injEq] at e
        obtain ⟨rfl, -, rfl⟩ := e
        obtain ⟨rfl, rfl, hfo, hfn, hkf⟩ := trOn_iff.1 h3
        obtain ⟨rfl, rfl, hxo, hxn, hkx⟩ := trOn_iff.1 g3
        obtain ⟨adf, capf, rfl, -, -, -⟩ := id hkf
        obtain ⟨adx, capx, rfl, -, -, -⟩ := id hkx
        have hSl : bl < w.heap.size := hS
        have b0 := (HB.out.cell (p := ⟨bl, off, none⟩) hSl).trans h0
        have b1 := (HB.out.cell (p := ⟨bl, off + 1, none⟩) hSl).trans h1
        have b2 := (HB.out.cell (p := ⟨bl, off + 2, none⟩) hSl).trans h2
        have b3 := (HB.out.cell (p := ⟨bl, off + 3, none⟩) hSl).trans g0
        have b4 := (HB.out.cell (p := ⟨bl, off + 4, none⟩) hSl).trans g1
        have b5 := (HB.out.cell (p := ⟨bl, off + 5, none⟩) hSl).trans g2
        have HBx2 : Hid (wr.rowIs w.heap.size 31 3 (boxF t.op t.num (.slice (some ⟨bl, off, none⟩) 2 capt))) := by have := HBx.out; rw [hlen] at this; exact this
        rw [ho] at c0
        rw [hlen] at c2
        have HN : Hid (Unw w a (.slice ad a.kids.length cap) f (.slice adf f.kids.length capf) (l ++ [(x, .int .i64 x.op, .int .i64 x.num, .slice adx x.kids.length capx)])) := by
          have h := HU.out
          rw [hlen] at h
          exact Unw.down h ho hkk rfl h2 g0 g1 g2
        have hsn := (HN.out.on HK.out HA.out).2.2.2.2
        simp only [List.length_append, List.length_cons, List.length_nil] at hsn
        clear hkt hrow h0 h1 h2 h3 g0 g1 g2 g3 ho hlen hkk
        have hlit : ∀ W : World, w.heap.size + 2 ≤ W.heap.size → (W.alloc (.cells #[.int .i64 x.op, .int .i64 x.num, .slice adx x.kids.length capx] 31)).ownsRow (w.heap.size + 2) 31 3 (.slice (some ⟨W.heap.size, 0, none⟩) 1 1) 1 [.int .i64 x.op, .int .i64 x.num, .slice adx x.kids.length capx] := fun W hW =>
          ⟨rfl, Or.inr ⟨_, 1, _, rfl, hW, Deep.blk_alloc_new _ _, Nat.le_refl _, by unfold maxLen; omega, rfl, rfl⟩⟩
        have HL : Hid _ := hlit
        clear hlit
        go_wp2_with (first
          | (at_builtin; refine wpList_append_own _ rfl _ _ 29 rfl (w.heap.size + 2) 31 iE zE 3 40 Try.underlying29 HE.out.1 HE.out.2.1 HE.out.2.2.1 HE.out.2.2.2.1 HE.out.2.2.2.2 (by decide) _ _ _ rfl (HL.out wr hlo) ⟨g, 0, none⟩ l.length capg (cdCells l.reverse) rfl (by rw [cdCells_length, List.length_reverse]) (fun j u hu => old_cell (own_cells HO.out j u hu) _) hfm.out (by unfold maxLen; omega) (by omega) (by rw [Deep.nblk_alloc]; omega) ?_; intro v' w3 hown' hgrow hnil; have hXX : ∀ k, k < wr.heap.size → w3.heap[k]? = wr.heap[k]? := (fun k hk => (hgrow.block k (by rw [Deep.nblk_alloc]; omega) (fun e => by have e' : k = wr.heap.size := Option.some.inj e; omega)).trans (Deep.blk_alloc_lt _ _ k hk)); have HO3 : Hid (w3.ownsRow (w.heap.size + 2) 31 3 v' (1 + l.length) ([.int .i64 x.op, .int .i64 x.num, .slice adx x.kids.length capx] ++ cdCells l.reverse)) := hown'; have HX3 : Hid (w3.rowIs w.heap.size 31 3 (boxF t.op t.num (.slice (some ⟨bl, off, none⟩) 2 capt))) := HBx2.out.of_block (hXX _ (by omega)); have HRs3 : Hid (w3.rowIs (w.heap.size + 1) 31 3 (boxF 0 0 (.slice none 0 0))) := HRs.out.of_block (hXX _ (by omega)); have hsz3 : wr.heap.size ≤ w3.heap.size := (by have := hgrow.size; rw [Deep.nblk_alloc] at this; omega); have HB3 : Hid (Below w.heap.size w w3) := (by have hb1 := HB.out; exact ⟨by rw [hgrow.os]; exact hb1.os, by rw [hgrow.tape]; exact hb1.tape, by rw [hgrow.output]; exact hb1.output, Nat.le_trans hb1.size hsz3, fun k hk => (hXX k (by omega)).trans (hb1.block k hk)⟩); have d0 := (World.cell?_of_block (a := ⟨bl, off, none⟩) (hXX _ (by show bl < _; omega))).trans b0; have d1 := (World.cell?_of_block (a := ⟨bl, off + 1, none⟩) (hXX _ (by show bl < _; omega))).trans b1; have d2 := (World.cell?_of_block (a := ⟨bl, off + 2, none⟩) (hXX _ (by show bl < _; omega))).trans b2; have e0 := HX3.out.cell (i := 0) (by omega); have e1 := HX3.out.cell (i := 1) (by omega); have e2 := HX3.out.cell (i := 2) (by omega); simp only [boxF, if_pos, if_neg, show (1 : Nat) ≠ 0 from by omega, show (2 : Nat) ≠ 0 from by omega, show (2 : Nat) ≠ 1 from by omega] at e0 e1 e2; have ef := HX3.out.frozen; clear hXX hown' hgrow hnil c0 c1 c2 b0 b1 b2 b3 b4 b5 fz)
          | go_in)
        have keep : ∀ k, k ≠ w.heap.size → (((w3.setCell ⟨w.heap.size, 0, none⟩ (.int .i64 f.op)).setCell ⟨w.heap.size, 1, none⟩ (.int .i64 f.num)).setCell ⟨w.heap.size, 2, none⟩ (.slice adf f.kids.length capf)).heap[k]? = w3.heap[k]? := fun k hk =>
          ((Below.heap_setCell _ _ _ _ hk).trans (Below.heap_setCell _ _ _ _ hk)).trans (Below.heap_setCell _ _ _ _ hk)
        have hsv : ∃ g c, v' = .slice (some ⟨g, 0, none⟩) (l.length + 1) c := by
          rcases HO3.out.2 with ⟨-, h⟩ | ⟨g, c, cur, rfl, -⟩
          · omega
          · exact ⟨g, c, by rw [Nat.add_comm]⟩
        obtain ⟨g', c', rfl⟩ := hsv
        refine ⟨⟨f, _, _, HN.out, ?_, HRs3.out.of_block (keep _ (by omega)), ?_, ⟨g', c', by simp⟩, ?_⟩, by simp [slLen]; omega⟩
        · refine (((HX3.out.set 0 _).set 1 _).set 2 _).congr fun i hi => ?_
          rcases (by omega : i = 0 ∨ i = 1 ∨ i = 2) with rfl | rfl | rfl <;> simp [boxF]
        · have h := own_keep HO3.out (fun k hk _ => keep k (by omega))
          rw [Nat.add_comm 1 l.length] at h
          simpa [cdCells] using h
        · exact ((HB3.out.setCell (by simp) _).setCell (by simp) _).setCell (by simp) _
      · have hstop : Hid (¬ (t.op = 4 ∧ t.kids.length = 2)) := fun h => hlen h.2
        have t2 : ((t.kids.length : Int) == 2) = false := by simp; omega
        rw [ho] at c0
        have r0 := HRs.out.cell (i := 0) (by omega)
        have r1 := HRs.out.cell (i := 1) (by omega)
        have r2 := HRs.out.cell (i := 2) (by omega)
        simp only [boxF, if_pos, if_neg, show (1 : Nat) ≠ 0 from by omega, show (2 : Nat) ≠ 0 from by omega, show (2 : Nat) ≠ 1 from by omega] at r0 r1 r2
        have rf := HRs.out.frozen
        go_wp2_with fail
        refine bodyPost_ret (v := .tuple #[.agg #[.int .i64 4, .int .i64 t.num, .slice act t.kids.length capt], .slice (some ⟨g, 0, none⟩) l.length capg]) (by simp [results, Try.results94, go_sem, r0, r1, r2, rf]) rfl ⟨t, _, l, _, by rw [ho], HU.out, hstop.out, ?_, ?_⟩
        · exact CdRow.keep (lo := w.heap.size + 2) (own_cd (by rw [List.length_reverse]; exact HO.out)) (by omega) fun k hk _ => ((Below.heap_setCell _ _ _ _ (by show k ≠ w.heap.size + 1; omega)).trans (Below.heap_setCell _ _ _ _ (by show k ≠ w.heap.size + 1; omega))).trans (Below.heap_setCell _ _ _ _ (by show k ≠ w.heap.size + 1; omega))
        · exact ((HB.out.setCell (by simp) _).setCell (by simp) _).setCell (by simp) _
    · have hstop : Hid (¬ (t.op = 4 ∧ t.kids.length = 2)) := fun h => ho h.1
      have t1 : (t.op == 4) = false := by simpa using ho
      have r0 := HRs.out.cell (i := 0) (by omega)
      have r1 := HRs.out.cell (i := 1) (by omega)
      have r2 := HRs.out.cell (i := 2) (by omega)
      simp only [boxF, if_pos, if_neg, show (1 : Nat) ≠ 0 from by omega, show (2 : Nat) ≠ 0 from by omega, show (2 : Nat) ≠ 1 from by omega] at r0 r1 r2
      have rf := HRs.out.frozen
      go_wp2_with fail
      refine bodyPost_ret (v := .tuple #[.agg #[.int .i64 t.op, .int .i64 t.num, .slice act t.kids.length capt], .slice (some ⟨g, 0, none⟩) l.length capg]) (by simp [results, Try.results94, go_sem, r0, r1, r2, rf]) rfl ⟨t, _, l, _, rfl, HU.out, hstop.out, ?_, ?_⟩
      · exact CdRow.keep (lo := w.heap.size + 2) (own_cd (by rw [List.length_reverse]; exact HO.out)) (by omega) fun k hk _ => ((Below.heap_setCell _ _ _ _ (by show k ≠ w.heap.size + 1; omega)).trans (Below.heap_setCell _ _ _ _ (by show k ≠ w.heap.size + 1; omega))).trans (Below.heap_setCell _ _ _ _ (by show k ≠ w.heap.size + 1; omega))
      · exact ((HB.out.setCell (by simp) _).setCell (by simp) _).setCell (by simp) _
end Go.Proofs.Ytocnkjicmchbdaa
