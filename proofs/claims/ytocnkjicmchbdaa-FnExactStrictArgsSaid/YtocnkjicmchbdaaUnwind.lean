/-
  THE PROGRAM's unwind: the function of nested applications, and its arguments in order; nothing that was there is changed.
-/
import Derived.Test.YtocnkjicmchbdaaUniq
import Derived.Test.YtocnkjicmchbdaaRow3
import Derived.Test.YtocnkjicmchbdaaRev
namespace Go.Proofs.Ytocnkjicmchbdaa
set_option linter.unusedVariables false
set_option linter.unusedSimpArgs false
open Go.RowKit

/-- a row of cards, in new memory -/
def CdRow (w : World) (lo : Nat) (l : List Cd) (v : Value) : Prop :=
  (l = [] ∧ v = .slice none 0 0) ∨ ∃ g cap f, v = .slice (some ⟨g, 0, none⟩) l.length cap ∧ lo ≤ g ∧ l.length ≤ cap ∧ cap ≤ maxLen ∧ w.rowIs g 31 (cap * 3) f ∧
    ∀ j (hj : j < l.length), f (j * 3) = l[j].2.1 ∧ f (j * 3 + 1) = l[j].2.2.1 ∧ f (j * 3 + 2) = l[j].2.2.2

theorem CdRow.keep {w w' : World} {lo lo' : Nat} {l : List Cd} {v : Value} (h : CdRow w lo l v) (hl : lo' ≤ lo) (hk : ∀ k, lo ≤ k → k < w.heap.size → w'.heap[k]? = w.heap[k]?) : CdRow w' lo' l v := by
  rcases h with h | ⟨g, cap, f, e, hg, hn, hc, hr, hv⟩
  · exact Or.inl h
  · exact Or.inr ⟨g, cap, f, e, Nat.le_trans hl hg, hn, hc, hr.of_block (hk g hg hr.lt), hv⟩
/-- cards, as cells -/
def cdCells (l : List Cd) : List Value := l.flatMap fun d => [d.2.1, d.2.2.1, d.2.2.2]
theorem cdCells_at : ∀ (l : List Cd) (j : Nat) (hj : j < l.length), (cdCells l)[j * 3]? = some l[j].2.1 ∧ (cdCells l)[j * 3 + 1]? = some l[j].2.2.1 ∧ (cdCells l)[j * 3 + 2]? = some l[j].2.2.2
  | [], j, hj => by simp at hj
  | d :: l, 0, _ => by simp [cdCells]
  | d :: l, j + 1, hj => by
    have := cdCells_at l j (by simpa using hj)
    have e : ∀ r, (cdCells (d :: l))[(j + 1) * 3 + r]? = (cdCells l)[j * 3 + r]? := fun r => by
      rw [show (j + 1) * 3 + r = 3 + (j * 3 + r) by omega]
      show ([d.2.1, d.2.2.1, d.2.2.2] ++ cdCells l)[3 + (j * 3 + r)]? = _
      rw [List.getElem?_append_right (by simp)]
      simp
    have e0 := e 0
    rw [Nat.add_zero, Nat.add_zero] at e0
    rw [e0, e 1, e 2]
    simpa using this
theorem own_cd {w : World} {base : Nat} {v : Value} {l : List Cd} (h : w.ownsRow base 31 3 v l.length (cdCells l)) : CdRow w base l v := by
  rcases h.2 with ⟨rfl, h0⟩ | ⟨g, cap, cur, rfl, hg, hh, hn, hc, hs, htk⟩
  · exact Or.inl ⟨List.eq_nil_of_length_eq_zero h0, rfl⟩
  · refine Or.inr ⟨g, cap, fun i => cur.getD i undef, rfl, hg, hn, hc, ⟨cur, hh, hs, fun i hi => ?_⟩, fun j hj => ?_⟩
    · simp [Array.getElem?_eq_getElem (hs ▸ hi : i < cur.size), Array.getD, (hs ▸ hi : i < cur.size)]
    · have hget : ∀ i v, i < l.length * 3 → (cdCells l)[i]? = some v → cur.getD i undef = v := fun i v hi hv => by
        rw [← htk, List.getElem?_take_of_lt hi, Array.getElem?_toList] at hv
        rw [Array.getD_eq_getD_getElem?, hv]; rfl
      obtain ⟨h0, h1, h2⟩ := cdCells_at l j hj
      exact ⟨hget _ _ (by omega) h0, hget _ _ (by omega) h1, hget _ _ (by omega) h2⟩

set_option maxHeartbeats 400000 in
theorem rev_nil (w : World) : Calls Try.prog 118 #[.slice none 0 0] w fun e w' => e = .returned (.tuple #[]) ∧ Below w.heap.size w w' := by
  go_enter Try.func118, Try.ntmps118
  go_wp2_with fail
  go_loopw [2, 3] (fun i j wr => i = .int .i64 0 ∧ j = .int .i64 (-1) ∧ Below w.heap.size w wr) (fun i _ _ => 0)
  case atStart => exact ⟨rfl, rfl, Below.refl _ _⟩
  case round =>
    obtain ⟨rfl, rfl, hb⟩ := hrel
    go_wp2_with fail
    go_end0
    exact ⟨rfl, hb⟩

theorem rev_cd (lo : Nat) (l : List Cd) (v : Value) (w : World) (h : CdRow w lo l v) (hf : ∀ d ∈ l, ∃ p q ad n c, d.2.1 = .int .i64 p ∧ d.2.2.1 = .int .i64 q ∧ d.2.2.2 = .slice ad n c) (hlo : lo ≤ w.heap.size) :
    Calls Try.prog 118 #[v] w fun e w' => e = .returned (.tuple #[]) ∧ CdRow w' lo l.reverse v ∧ Below lo w w' := by
  rcases h with ⟨rfl, rfl⟩ | ⟨g, cap, f, rfl, hg, hn, hc, hr, hv⟩
  · refine (rev_nil w).mono ?_
    rintro e w' ⟨rfl, hb⟩
    exact ⟨rfl, Or.inl ⟨rfl, rfl⟩, hb.mono hlo⟩
  · refine (rev_calls g l.length cap f w hr hn hc fun j hj => ?_).mono ?_
    · obtain ⟨p, q, ad, n, c, e0, e1, e2⟩ := hf l[j] (List.getElem_mem hj)
      obtain ⟨h0, h1, h2⟩ := hv j hj
      exact ⟨p, q, ad, n, c, h0.trans e0, h1.trans e1, h2.trans e2⟩
    · rintro e w' ⟨rfl, ⟨f', hr', hf'⟩, hgr⟩
      refine ⟨rfl, Or.inr ⟨g, cap, f', by simp, hg, by simpa using hn, hc, hr', fun j hj => ?_⟩, ⟨hgr.os, hgr.tape, hgr.output, hgr.size, fun k hk => hgr.block k (by omega) (by simp; omega)⟩⟩
      have hj' : j < l.length := by simpa using hj
      have a0 := hf' j 0 hj' (by omega)
      have a1 := hf' j 1 hj' (by omega)
      have a2 := hf' j 2 hj' (by omega)
      rw [Nat.add_zero, Nat.add_zero] at a0
      obtain ⟨h0, h1, h2⟩ := hv (l.length - 1 - j) (by omega)
      rw [List.getElem_reverse]
      exact ⟨a0.trans h0, a1.trans h1, a2.trans h2⟩

theorem ptrK : PKey Try.prog 136 embP PlainAt := by
  obtain ⟨j, hj, hs⟩ : ∃ j, Try.prog.info? 31 = some j ∧ j.size ≠ 0 := by
    have h : (Try.prog.info? 31).map (fun i => i.size) = some 3 := by kernel_rfl
    cases hi : Try.prog.info? 31 with
    | none => rw [hi] at h; simp at h
    | some j => rw [hi] at h; simp at h; exact ⟨j, rfl, by omega⟩
  exact ptr_key Try.underlying136 hj hs
theorem zeroBool (w : World) : (zeroValue 4).run Try.prog w = .ok (.bool false) w := by kernel_rfl

/-- how long a slice is -/
def slLen : Value → Nat
  | .slice _ n _ => n
  | _ => 0

/-- the three cells of a tree's box -/
def boxF (o n : Int) (c : Value) : Nat → Value := fun i => if i = 0 then .int .i64 o else if i = 1 then .int .i64 n else c
theorem box3 (o n : Int) (c : Value) : ∀ i, i < (#[.int .i64 o, .int .i64 n, c] : Array Value).size → (#[.int .i64 o, .int .i64 n, c] : Array Value)[i]? = some (boxF o n c i) := by
  intro i hi
  have hi' : i < 3 := hi
  rcases (by omega : i = 0 ∨ i = 1 ∨ i = 2) with rfl | rfl | rfl <;> rfl

/-- what holds on the way down -/
def URel (w : World) (a : Tr) (c : Value) (v : Value) (wr : World) : Prop :=
  ∃ (t : Tr) (ct : Value) (l : List Cd) (M : Addr → Option Value), Unw w a c t ct l ∧ wr.rowIs w.heap.size 31 3 (boxF t.op t.num ct) ∧ wr.rowIs (w.heap.size + 1) 31 3 (boxF 0 0 (.slice none 0 0)) ∧
    PMap embP wr (w.heap.size + 2) (fun x => ∃ s, LiesAt w (Pl w) x s ∧ szT t ≤ szT s) M ∧ wr.ownsRow (w.heap.size + 3) 31 3 v l.length (cdCells l) ∧ slLen v = l.length ∧ Below w.heap.size w wr

set_option maxRecDepth 100000 in
set_option maxHeartbeats 800000 in
theorem unwind_calls (a : Tr) (c : Value) (w : World) (hk : InP w a.kids c) (ha : I64 a.op ∧ I64 a.num) (hz : szT a ≤ 1099511627776) :
    Calls Try.prog 96 #[.agg #[.int .i64 a.op, .int .i64 a.num, c]] w fun e w' => ∃ (t : Tr) (ct : Value) (l : List Cd) (v : Value), e = .returned (.tuple #[.agg #[.int .i64 t.op, .int .i64 t.num, ct], v, .bool true]) ∧ Unw w a c t ct l ∧ ¬ (t.op = 4 ∧ t.kids.length = 2) ∧ CdRow w' w.heap.size l.reverse v ∧ Below w.heap.size w w' := by
  have HK : Hid (InP w a.kids c) := hk
  have HA : Hid (I64 a.op ∧ I64 a.num) := ha
  have hmm := @run_makeMap Try.prog
  obtain ⟨ad, cap, rfl, -, -, -⟩ := hk
  clear ha
  go_enter Try.func96, Try.ntmps96
  go_wp2_with fail
  clear hmm
  obtain ⟨iE, zE, hiE, hzE, hsE, hbE, hcE⟩ := infoE3
  have HE : Hid (Try.prog.info? 31 = some iE ∧ iE.zero = some zE ∧ iE.size = 3 ∧ iE.bytes = 40 ∧ zE.cells.size = 3) := ⟨hiE, hzE, hsE, hbE, hcE⟩
  clear hiE hzE hsE hbE hcE
  go_loopw [5] (fun v wr => URel w a (.slice ad a.kids.length cap) v wr) (fun v _ => szT a - slLen v)
  case atStart =>
    refine ⟨a, _, [], fun _ => none, Unw.here, ?_, ?_, ?_, ?_, rfl, ?_⟩
    · exact ((World.rowIs_alloc w #[.int .i64 a.op, .int .i64 a.num, .slice ad a.kids.length cap] 31 (boxF a.op a.num (.slice ad a.kids.length cap)) (box3 _ _ _)).alloc _).alloc _
    · have h := World.rowIs_alloc (w.alloc (.cells #[.int .i64 a.op, .int .i64 a.num, .slice ad a.kids.length cap] 31)) #[.int .i64 0, .int .i64 0, .slice none 0 0] 31 (boxF 0 0 (.slice none 0 0)) (box3 _ _ _)
      rw [Deep.nblk_alloc] at h
      exact h.alloc _
    · have h := PMap.made (emb := embP) ((w.alloc (.cells #[.int .i64 a.op, .int .i64 a.num, .slice ad a.kids.length cap] 31)).alloc (.cells #[.int .i64 0, .int .i64 0, .slice none 0 0] 31)) (fun x => ∃ s, LiesAt w (Pl w) x s ∧ szT a ≤ szT s)
      rw [Deep.nblk_alloc, Deep.nblk_alloc] at h
      exact h
    · exact World.ownsRow_nil _ _ _ _
    · exact (((Below.refl _ _).alloc (Nat.le_refl _) _).alloc (by simp) _).alloc (by simp; omega) _
  case round =>
    obtain ⟨t, ct, l, M, hu, hbox, hres, hmap, hown, hsl, hb⟩ := hrel
    have HRs : Hid (wr.rowIs (w.heap.size + 1) 31 3 (boxF 0 0 (.slice none 0 0))) := hres
    have HU : Hid (Unw w a (.slice ad a.kids.length cap) t ct l) := hu
    have HBx : Hid (wr.rowIs w.heap.size 31 3 (boxF t.op t.num ct)) := hbox
    have HB : Hid (Below w.heap.size w wr) := hb
    have HMp : Hid (PMap embP wr (w.heap.size + 2) (fun x => ∃ s, LiesAt w (Pl w) x s ∧ szT t ≤ szT s) M) := hmap
    have HO : Hid (wr.ownsRow (w.heap.size + 3) 31 3 u5 l.length (cdCells l)) := hown
    obtain ⟨hkt, hot, hnt, hlt, hsz⟩ := hu.on HK.out HA.out
    have c0 := hbox.cell (i := 0) (by omega)
    have c1 := hbox.cell (i := 1) (by omega)
    have c2 := hbox.cell (i := 2) (by omega)
    simp only [boxF, if_pos, if_neg, show (1 : Nat) ≠ 0 from by omega, show (2 : Nat) ≠ 0 from by omega, show (2 : Nat) ≠ 1 from by omega] at c0 c1 c2
    have fz := hbox.frozen
    clear hu hbox hb hmap hown hres
    obtain ⟨act, capt, rfl, hl1, hl2, -⟩ := id hkt
    unfold maxLen at hl2
    by_cases ho : t.op = 4
    · by_cases hlen : t.kids.length = 2
      · obtain ⟨f, x, hkk⟩ : ∃ f x, t.kids = [f, x] := by
          match hks : t.kids, hlen with
          | [f, x], _ => exact ⟨f, x, rfl⟩
        have HT : Hid (t.op = 4 ∧ t.kids = [f, x]) := ⟨ho, hkk⟩
        rw [hkk] at hkt
        obtain ⟨bl, off, cap', p, q, cf, u, v, r, e, -, -, hS, hrow, h0, h1, h2, h3, g0, g1, g2, g3⟩ := hkt.two
        simp only [Value.slice.injEq] at e
        obtain ⟨rfl, -, rfl⟩ := e
        obtain ⟨rfl, rfl, hfo, hfn, hkf⟩ := trOn_iff.1 h3
        obtain ⟨rfl, rfl, hxo, hxn, hkx⟩ := trOn_iff.1 g3
        obtain ⟨adf, capf, rfl, -, -, -⟩ := id hkf
        obtain ⟨adx, capx, rfl, -, -, -⟩ := id hkx
        have b0 := (HB.out.cell (p := ⟨bl, off, none⟩) hS.1).trans h0
        have b1 := (HB.out.cell (p := ⟨bl, off + 1, none⟩) hS.1).trans h1
        have b2 := (HB.out.cell (p := ⟨bl, off + 2, none⟩) hS.1).trans h2
        have b3 := (HB.out.cell (p := ⟨bl, off + 3, none⟩) hS.1).trans g0
        have b4 := (HB.out.cell (p := ⟨bl, off + 4, none⟩) hS.1).trans g1
        have b5 := (HB.out.cell (p := ⟨bl, off + 5, none⟩) hS.1).trans g2
        have HBx2 : Hid (wr.rowIs w.heap.size 31 3 (boxF t.op t.num (.slice (some ⟨bl, off, none⟩) 2 capt))) := by have := HBx.out; rw [hlen] at this; exact this
        rw [ho] at c0
        rw [hlen] at c2
        have hNf : LiesAt w (Pl w) ⟨bl, off, none⟩ f := by simpa using RowOn.liesAt (i := 0) (by simp) hS hrow
        have hpl : PlainAt wr ⟨bl, off, none⟩ := hNf.plain HB.out
        have hMn : M ⟨bl, off, none⟩ = none := by
          cases hM : M ⟨bl, off, none⟩ with
          | none => rfl
          | some y =>
            obtain ⟨s, hs, hle⟩ := HMp.out.key_of hM
            have := hs.uniq hNf
            subst this
            have e1 : szT t = szL [s, x] := by rw [szT_eq, hkk]
            simp only [szL] at e1
            omega
        have hft : szT f ≤ szT t := by
          have e1 : szT t = szL [f, x] := by rw [szT_eq, hkk]
          simp only [szL] at e1
          omega
        have HMp' : Hid (PMap embP wr (w.heap.size + 2) (fun x => ∃ s, LiesAt w (Pl w) x s ∧ szT f ≤ szT s) M) := HMp.out.keys fun y hy => by obtain ⟨s, hs, hle⟩ := hy; exact ⟨s, hs, by omega⟩
        have HN : Hid (Unw w a (.slice ad a.kids.length cap) f (.slice adf f.kids.length capf) (l ++ [(x, .int .i64 x.op, .int .i64 x.num, .slice adx x.kids.length capx)])) := by
          have h := HU.out
          rw [hlen] at h
          exact Unw.down h ho hkk rfl h2 g0 g1 g2
        have hsn := (HN.out.on HK.out HA.out).2.2.2.2
        simp only [List.length_append, List.length_cons, List.length_nil] at hsn
        clear hkt hrow h0 h1 h2 h3 g0 g1 g2 g3 ho hlen hkk
        have h1c : ∀ u ∈ [Value.int .i64 x.op, .int .i64 x.num, .slice adx x.kids.length capx], u.oneCell' = true := by
          intro u hu
          simp only [List.mem_cons, List.not_mem_nil, or_false] at hu
          rcases hu with rfl | rfl | rfl <;> rfl
        go_wp2_with (first
          | (at_lookup; refine wpList_look_p _ rfl _ _ 135 rfl 136 4 ptrK Try.underlying135 (.bool false) (zeroBool _) (w.heap.size + 2) _ M rfl HMp.out (fun y hy => by obtain ⟨s, hs, _⟩ := hy; exact hs.plain HB.out) ⟨bl, off, none⟩ rfl hpl ?_; rw [hMn])
          | (at_mapUpdate; refine wpList_store_p _ rfl _ _ _ 135 rfl 136 4 ptrK Try.underlying135 (w.heap.size + 2) _ M rfl HMp'.out (fun y hy => by obtain ⟨s, hs, _⟩ := hy; exact hs.plain HB.out) ⟨bl, off, none⟩ rfl hpl ⟨f, hNf, Nat.le_refl _⟩ (.bool true) rfl ?_; intro o' hp; obtain ⟨w1, hw1⟩ : ∃ w1, w1 = ({ wr with heap := wr.heap.setIfInBounds (w.heap.size + 2) o' } : World) := ⟨_, rfl⟩; rw [← hw1] at hp ⊢; have hX : ∀ k, k ≠ w.heap.size + 2 → w1.heap[k]? = wr.heap[k]? := (by intro k hk; rw [hw1]; exact set_other_block wr _ o' hk); have HZ1 : Hid (w1.heap.size = wr.heap.size) := (by rw [hw1]; exact set_size wr _ o'); have HP : Hid (PMap embP w1 (w.heap.size + 2) (fun x => ∃ s, LiesAt w (Pl w) x s ∧ szT f ≤ szT s) (pput M ⟨bl, off, none⟩ (.bool true))) := hp; have HB1 : Hid (Below w.heap.size w w1) := (by rw [hw1]; exact HB.out.trans (set_below wr _ o' (by omega))); have c2' := (World.cell?_of_block (a := ⟨w.heap.size, 2, none⟩) (hX _ (by show w.heap.size ≠ _; omega))).trans c2; have b0' := (World.cell?_of_block (a := ⟨bl, off, none⟩) (hX _ (by have := hS.1; show bl ≠ _; omega))).trans b0; have b1' := (World.cell?_of_block (a := ⟨bl, off + 1, none⟩) (hX _ (by have := hS.1; show bl ≠ _; omega))).trans b1; have b2' := (World.cell?_of_block (a := ⟨bl, off + 2, none⟩) (hX _ (by have := hS.1; show bl ≠ _; omega))).trans b2; have b3' := (World.cell?_of_block (a := ⟨bl, off + 3, none⟩) (hX _ (by have := hS.1; show bl ≠ _; omega))).trans b3; have b4' := (World.cell?_of_block (a := ⟨bl, off + 4, none⟩) (hX _ (by have := hS.1; show bl ≠ _; omega))).trans b4; have b5' := (World.cell?_of_block (a := ⟨bl, off + 5, none⟩) (hX _ (by have := hS.1; show bl ≠ _; omega))).trans b5; have HO1 : Hid (w1.ownsRow (w.heap.size + 3) 31 3 u5 l.length (cdCells l)) := own_keep HO.out (fun k hk _ => hX k (by omega)); have HRs1 : Hid (w1.rowIs (w.heap.size + 1) 31 3 (boxF 0 0 (.slice none 0 0))) := HRs.out.of_block (hX _ (by omega)); have HX1 : Hid (w1.rowIs w.heap.size 31 3 (boxF t.op t.num (.slice (some ⟨bl, off, none⟩) 2 capt))) := HBx2.out.of_block (hX _ (by omega)); clear hX hw1 hp c0 c1 c2 b0 b1 b2 b3 b4 b5 fz)
          | (at_builtin; refine wpList_append_own _ rfl _ _ 29 rfl (w.heap.size + 3) 31 iE zE 3 40 Try.underlying29 HE.out.1 HE.out.2.1 HE.out.2.2.1 HE.out.2.2.2.1 HE.out.2.2.2.2 (by decide) _ _ _ rfl (own_keep HO1.out (fun k _ hk => Deep.blk_alloc_lt _ _ k hk)) ⟨w1.heap.size, 0, none⟩ 1 1 [.int .i64 x.op, .int .i64 x.num, .slice adx x.kids.length capx] rfl rfl (news3 w1 _ _ _) h1c (by unfold maxLen; omega) (by omega) (by rw [Deep.nblk_alloc]; have := HP.out.lt; omega) ?_; intro v' w3 hown' hgrow hnil; have hXX : ∀ k, k < w.heap.size + 3 → w3.heap[k]? = w1.heap[k]? := (fun k hk => (hgrow.block k (by rw [Deep.nblk_alloc]; have := HP.out.lt; omega) (fun e => by have := own_block HO1.out e; omega)).trans (Deep.blk_alloc_lt _ _ k (by have := HP.out.lt; omega))); have HO3 : Hid (w3.ownsRow (w.heap.size + 3) 31 3 v' (l.length + 1) (cdCells l ++ [.int .i64 x.op, .int .i64 x.num, .slice adx x.kids.length capx])) := hown'; have HRs3 : Hid (w3.rowIs (w.heap.size + 1) 31 3 (boxF 0 0 (.slice none 0 0))) := HRs1.out.of_block (hXX _ (by omega)); have HX3 : Hid (w3.rowIs w.heap.size 31 3 (boxF t.op t.num (.slice (some ⟨bl, off, none⟩) 2 capt))) := HX1.out.of_block (hXX _ (by omega)); have HP3 : Hid (PMap embP w3 (w.heap.size + 2) (fun x => ∃ s, LiesAt w (Pl w) x s ∧ szT f ≤ szT s) (pput M ⟨bl, off, none⟩ (.bool true))) := HP.out.keep (hXX _ (by omega)); have HB3 : Hid (Below w.heap.size w w3) := (by have hb1 := HB1.out; exact ⟨by rw [hgrow.os]; exact hb1.os, by rw [hgrow.tape]; exact hb1.tape, by rw [hgrow.output]; exact hb1.output, Nat.le_trans hb1.size (by have := hgrow.size; rw [Deep.nblk_alloc] at this; omega), fun k hk => (hXX k (by omega)).trans (hb1.block k hk)⟩); have d0 := (World.cell?_of_block (a := ⟨bl, off, none⟩) (hXX _ (by have := hS.1; show bl < _; omega))).trans b0'; have d1 := (World.cell?_of_block (a := ⟨bl, off + 1, none⟩) (hXX _ (by have := hS.1; show bl < _; omega))).trans b1'; have d2 := (World.cell?_of_block (a := ⟨bl, off + 2, none⟩) (hXX _ (by have := hS.1; show bl < _; omega))).trans b2'; have e0 := HX3.out.cell (i := 0) (by omega); have e1 := HX3.out.cell (i := 1) (by omega); have e2 := HX3.out.cell (i := 2) (by omega); simp only [boxF, if_pos, if_neg, show (1 : Nat) ≠ 0 from by omega, show (2 : Nat) ≠ 0 from by omega, show (2 : Nat) ≠ 1 from by omega] at e0 e1 e2; have ef := HX3.out.frozen; have hsz3 : Hid (w.heap.size + 3 ≤ w3.heap.size) := (by have := HP3.out.lt; unfold Hid; omega); clear hXX hown' hgrow hnil c2' b0' b1' b2' b3' b4' b5')
          | go_in)
        have keep : ∀ k, k ≠ w.heap.size → (((w3.setCell ⟨w.heap.size, 0, none⟩ (.int .i64 f.op)).setCell ⟨w.heap.size, 1, none⟩ (.int .i64 f.num)).setCell ⟨w.heap.size, 2, none⟩ (.slice adf f.kids.length capf)).heap[k]? = w3.heap[k]? := fun k hk =>
          ((Below.heap_setCell _ _ _ _ hk).trans (Below.heap_setCell _ _ _ _ hk)).trans (Below.heap_setCell _ _ _ _ hk)
        have hsv : slLen v' = l.length + 1 := by
          rcases HO3.out.2 with ⟨-, h⟩ | ⟨g, c, cur, rfl, -⟩
          · omega
          · rfl
        refine ⟨⟨f, _, _, _, HN.out, ?_, HRs3.out.of_block (keep _ (by omega)), HP3.out.keep (keep _ (by omega)), ?_, ?_, ?_⟩, by omega⟩
        · refine (((HX3.out.set 0 _).set 1 _).set 2 _).congr fun i hi => ?_
          rcases (by omega : i = 0 ∨ i = 1 ∨ i = 2) with rfl | rfl | rfl <;> simp [boxF]
        · have h := own_keep HO3.out (fun k hk _ => keep k (by omega))
          simpa [cdCells] using h
        · simpa using hsv
        · exact ((HB3.out.setCell (by simp) _).setCell (by simp) _).setCell (by simp) _
      · have hstop : Hid (¬ (t.op = 4 ∧ t.kids.length = 2)) := fun h => hlen h.2
        have t2 : ((t.kids.length : Int) == 2) = false := by simp; omega
        rw [ho] at c0
        have hlr : ∀ d ∈ l, ∃ p q ad n c, d.2.1 = .int .i64 p ∧ d.2.2.1 = .int .i64 q ∧ d.2.2.2 = .slice ad n c := fun d hd => by
          obtain ⟨e1, e2, -, -, ad', c', e3, -⟩ := trOn_iff.1 (hlt d hd)
          exact ⟨_, _, _, _, _, e1, e2, e3⟩
        have hlo : w.heap.size + 3 ≤ wr.heap.size := by have := HMp.out.lt; omega
        go_wp2_with (go_at_call 118; refine (rev_cd (w.heap.size + 3) l u5 _ ?_ hlr ?_).mono ?_; exact own_cd HO.out; exact hlo; rintro e w4 ⟨rfl, hcd, hb4⟩; have HCD : Hid (CdRow w4 (w.heap.size + 3) l.reverse u5) := hcd; have HB4 : Hid (Below w.heap.size w w4) := HB.out.trans (hb4.mono (by omega)); have hn4 : w.heap.size + 3 ≤ w4.heap.size := (by have := hb4.size; omega); have d0 := (hb4.cell (p := ⟨w.heap.size, 0, none⟩) (by show w.heap.size < _; omega)).trans c0; have d1 := (hb4.cell (p := ⟨w.heap.size, 1, none⟩) (by show w.heap.size < _; omega)).trans c1; have d2 := (hb4.cell (p := ⟨w.heap.size, 2, none⟩) (by show w.heap.size < _; omega)).trans c2; have HR4 : Hid (w4.rowIs (w.heap.size + 1) 31 3 (boxF 0 0 (.slice none 0 0))) := HRs.out.of_block (hb4.block _ (by omega)); have r0 := HR4.out.cell (i := 0) (by omega); have r1 := HR4.out.cell (i := 1) (by omega); have r2 := HR4.out.cell (i := 2) (by omega); simp only [boxF, if_pos, if_neg, show (1 : Nat) ≠ 0 from by omega, show (2 : Nat) ≠ 0 from by omega, show (2 : Nat) ≠ 1 from by omega] at r0 r1 r2; have rf := HR4.out.frozen; clear hcd hb4 c0 c1 c2 fz)
        refine bodyPost_ret (v := .tuple #[.agg #[.int .i64 4, .int .i64 t.num, .slice act t.kids.length capt], u5, .bool true]) (by simp [results, Try.results96, go_sem, r0, r1, r2, rf]) rfl ⟨t, _, l, u5, by rw [ho], HU.out, hstop.out, ?_, ?_⟩
        · exact HCD.out.keep (by omega) fun k hk _ => ((Below.heap_setCell _ _ _ _ (by show k ≠ w.heap.size + 1; omega)).trans (Below.heap_setCell _ _ _ _ (by show k ≠ w.heap.size + 1; omega))).trans (Below.heap_setCell _ _ _ _ (by show k ≠ w.heap.size + 1; omega))
        · exact ((HB4.out.setCell (by simp) _).setCell (by simp) _).setCell (by simp) _
    · have hstop : Hid (¬ (t.op = 4 ∧ t.kids.length = 2)) := fun h => ho h.1
      have t1 : (t.op == 4) = false := by simpa using ho
      have hlr : ∀ d ∈ l, ∃ p q ad n c, d.2.1 = .int .i64 p ∧ d.2.2.1 = .int .i64 q ∧ d.2.2.2 = .slice ad n c := fun d hd => by
        obtain ⟨e1, e2, -, -, ad', c', e3, -⟩ := trOn_iff.1 (hlt d hd)
        exact ⟨_, _, _, _, _, e1, e2, e3⟩
      have hlo : w.heap.size + 3 ≤ wr.heap.size := by have := HMp.out.lt; omega
      go_wp2_with (go_at_call 118; refine (rev_cd (w.heap.size + 3) l u5 _ ?_ hlr ?_).mono ?_; exact own_cd HO.out; exact hlo; rintro e w4 ⟨rfl, hcd, hb4⟩; have HCD : Hid (CdRow w4 (w.heap.size + 3) l.reverse u5) := hcd; have HB4 : Hid (Below w.heap.size w w4) := HB.out.trans (hb4.mono (by omega)); have hn4 : w.heap.size + 3 ≤ w4.heap.size := (by have := hb4.size; omega); have d0 := (hb4.cell (p := ⟨w.heap.size, 0, none⟩) (by show w.heap.size < _; omega)).trans c0; have d1 := (hb4.cell (p := ⟨w.heap.size, 1, none⟩) (by show w.heap.size < _; omega)).trans c1; have d2 := (hb4.cell (p := ⟨w.heap.size, 2, none⟩) (by show w.heap.size < _; omega)).trans c2; have HR4 : Hid (w4.rowIs (w.heap.size + 1) 31 3 (boxF 0 0 (.slice none 0 0))) := HRs.out.of_block (hb4.block _ (by omega)); have r0 := HR4.out.cell (i := 0) (by omega); have r1 := HR4.out.cell (i := 1) (by omega); have r2 := HR4.out.cell (i := 2) (by omega); simp only [boxF, if_pos, if_neg, show (1 : Nat) ≠ 0 from by omega, show (2 : Nat) ≠ 0 from by omega, show (2 : Nat) ≠ 1 from by omega] at r0 r1 r2; have rf := HR4.out.frozen; clear hcd hb4 c0 c1 c2 fz)
      refine bodyPost_ret (v := .tuple #[.agg #[.int .i64 t.op, .int .i64 t.num, .slice act t.kids.length capt], u5, .bool true]) (by simp [results, Try.results96, go_sem, r0, r1, r2, rf]) rfl ⟨t, _, l, u5, rfl, HU.out, hstop.out, ?_, ?_⟩
      · exact HCD.out.keep (by omega) fun k hk _ => ((Below.heap_setCell _ _ _ _ (by show k ≠ w.heap.size + 1; omega)).trans (Below.heap_setCell _ _ _ _ (by show k ≠ w.heap.size + 1; omega))).trans (Below.heap_setCell _ _ _ _ (by show k ≠ w.heap.size + 1; omega))
      · exact ((HB4.out.setCell (by simp) _).setCell (by simp) _).setCell (by simp) _
end Go.Proofs.Ytocnkjicmchbdaa
