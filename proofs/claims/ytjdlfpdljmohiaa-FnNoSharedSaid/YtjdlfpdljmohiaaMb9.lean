/-
  THE MODEL's l2Goal: a program and a closed expression for it.
-/
import Derived.Test.YtjdlfpdljmohiaaMb7
import Derived.Test.YtjdlfpdljmohiaaMb8
import Derived.Test.YtjdlfpdljmohiaaMb2
import Derived.Test.YtjdlfpdljmohiaaMb1
import Derived.Test.YtjdlfpdljmohiaaMb3
import Derived.Test.YtjdlfpdljmohiaaProg
namespace Go.Proofs.Ytjdlfpdljmohiaa
set_option linter.unusedVariables false
set_option linter.unusedSimpArgs false
open Go.RowKit

/-- a program and a closed expression for it were drawn -/
def GoalD (w : World) (b p : Nat) (e : Ending) (w' : World) : Prop :=
  ∃ ds t pv kv p', e = .returned (.tuple #[pv, .agg #[.int .i64 t.op, .int .i64 t.num, kv]]) ∧ progB ds = true ∧ validB t 0 ds.length = true ∧ I64 t.op ∧ I64 t.num ∧ DefsOn w' (PN w.heap.size w') ds pv ∧ KidsOn w' (Btw w.heap.size w'.heap.size) t.kids kv ∧ RdOn w' b p' ∧ p' ≤ p + 5000 ∧ But b w w'
theorem goalD_of {ds : List Df} {t : Tr} {pv kv : Value} {w w' : World} {b p p' : Nat} (h1 : progB ds = true) (h2 : validB t 0 ds.length = true) (h3 : I64 t.op ∧ I64 t.num) (h4 : DefsOn w' (PN w.heap.size w') ds pv) (h5 : KidsOn w' (Btw w.heap.size w'.heap.size) t.kids kv) (h6 : RdOn w' b p') (h7 : p' ≤ p + 5000) (h8 : But b w w') :
    GoalD w b p (.returned (.tuple #[pv, .agg #[.int .i64 t.op, .int .i64 t.num, kv]])) w' := ⟨ds, t, pv, kv, p', rfl, h1, h2, h3.1, h3.2, h4, h5, h6, h7, h8⟩
theorem parseE_i64 (s : ByteArray) : I64 (parseE s).1.op ∧ I64 (parseE s).1.num := by
  unfold parseE
  split
  · have h := parseT_rng s 16 0
    have h1 := h.2.1
    have h2 := h.2.2
    simp only [I64]
    omega
  · unfold I64; decide
theorem GoalD.drew {w w' : World} {b p : Nat} {e : Ending} (h : GoalD w b p e w') : GoalD w b p e w'.drew := by
  obtain ⟨ds, t, pv, kv, p', h0, h1, h2, h3, h3', h4, h5, h6, h7, h8⟩ := h
  exact ⟨ds, t, pv, kv, p', h0, h1, h2, h3, h3', h4.mono (fun k hk => hk.go (Nat.le_refl _) rfl) fun _ _ => rfl, h5.mono (fun _ hk => hk) fun _ _ => rfl, h6.drew, h7, h8.drew⟩
theorem some_le {d : Nat} (hd : d ≤ 4) : 8 * 4 ^ d ≤ 2048 := by
  have : 4 ^ d ≤ 4 ^ 4 := Nat.pow_le_pow_right (by omega) hd
  omega
theorem small_of {L : List Int} {y : Int} (hy : y ∈ L) (hL : ∀ z ∈ L, 0 ≤ z ∧ z ≤ 4) : ∃ d : Nat, d ≤ 4 ∧ y = (d : Int) := ⟨y.toNat, by have := hL y hy; omega, by have := hL y hy; omega⟩
theorem valid_of_sh {t : Tr} {vars defs : Int} {d : Nat} (h : shB vars defs d t = true) (hd : d ≤ 16) (hs : 1 + szT t ≤ 60) (hv : 0 ≤ vars ∧ vars ≤ 4) (hf : 0 ≤ defs ∧ defs ≤ 6) : validB t vars defs = true := by
  have h4 := shB_deeper d 16 t hd h
  unfold validB
  rw [h4]
  simp
  omega
theorem sh_add {t u : Tr} {vars defs : Int} {d : Nat} (h : shB vars defs d t = true) (h2 : shB vars defs d u = true) : shB vars defs (d + 1) (.node 8 0 [t, u]) = true := by
  simp [shB, h, h2, arity, ownB]
theorem add_size (t u : Tr) : szT (.node 8 0 [t, u]) = (1 + szT t) + (1 + szT u) := by
  rw [szT_eq]; simp only [Tr.kids_node, szL, szT_eq]; omega
/-- a world behind the result's three stores -/
theorem But.set3 {b B : Nat} {w W : World} (h : But b w W) (hB : w.heap.size ≤ B) (x y z : Value) : But b w (((W.setCell ⟨B, 0, none⟩ x).setCell ⟨B, 1, none⟩ y).setCell ⟨B, 2, none⟩ z) :=
  ((h.setNew (by exact hB) _).setNew (by exact hB) _).setNew (by exact hB) _
theorem RdOn.set3 {b p B : Nat} {W : World} (h : RdOn W b p) (hB : b < B) (x y z : Value) : RdOn (((W.setCell ⟨B, 0, none⟩ x).setCell ⟨B, 1, none⟩ y).setCell ⟨B, 2, none⟩ z) b p :=
  ((h.setCell (by exact hB) _).setCell (by exact hB) _).setCell (by exact hB) _
theorem set3_size (W : World) (B : Nat) (x y z : Value) : (((W.setCell ⟨B, 0, none⟩ x).setCell ⟨B, 1, none⟩ y).setCell ⟨B, 2, none⟩ z).heap.size = W.heap.size := by
  rw [size_setCell, size_setCell, size_setCell]
theorem defs_set3 {W : World} {lo lo' B : Nat} {ds : List Df} {v : Value} (h : DefsOn W (PN lo W) ds v) (hB : B < lo) (hl : lo' ≤ lo) (x y z : Value) :
    DefsOn (((W.setCell ⟨B, 0, none⟩ x).setCell ⟨B, 1, none⟩ y).setCell ⟨B, 2, none⟩ z) (PN lo' (((W.setCell ⟨B, 0, none⟩ x).setCell ⟨B, 1, none⟩ y).setCell ⟨B, 2, none⟩ z)) ds v :=
  h.mono (fun k hk => hk.go hl (set3_heap _ _ _ _ _ _ (by have := hk.1; omega))) fun k hk => set3_heap _ _ _ _ _ _ (by have := hk.1; omega)
theorem kids_set3 {W : World} {lo lo' hi B : Nat} {ks : List Tr} {v : Value} (h : KidsOn W (Btw lo hi) ks v) (hB : B < lo) (hl : lo' ≤ lo) (hh : hi ≤ W.heap.size) (x y z : Value) :
    KidsOn (((W.setCell ⟨B, 0, none⟩ x).setCell ⟨B, 1, none⟩ y).setCell ⟨B, 2, none⟩ z) (Btw lo' (((W.setCell ⟨B, 0, none⟩ x).setCell ⟨B, 1, none⟩ y).setCell ⟨B, 2, none⟩ z).heap.size) ks v :=
  h.mono (fun k hk => ⟨by have := hk.1; omega, by rw [set3_size]; have := hk.2; omega⟩) fun k hk => set3_heap _ _ _ _ _ _ (by have := hk.1; omega)
/-- a drawn program goes on -/
theorem defs_but {w w' : World} {b lo : Nat} {ds : List Df} {v : Value} (h : DefsOn w (PN lo w) ds v) (hb : But b w w') (hl : b < lo) : DefsOn w' (PN lo w') ds v :=
  h.mono (fun k hk => hk.go (Nat.le_refl _) (hb.block k hk.2.1 (by have := hk.1; omega))) fun k hk => hb.block k hk.2.1 (by have := hk.1; omega)
theorem kids_but {w w' : World} {b lo hi : Nat} {ks : List Tr} {v : Value} (h : KidsOn w (Btw lo hi) ks v) (hb : But b w w') (hl : b < lo) (hh : hi ≤ w.heap.size) : KidsOn w' (Btw lo hi) ks v :=
  h.mono (fun _ hk => hk) fun k hk => hb.block k (by have := hk.2; omega) (by have := hk.1; omega)
theorem boxed {w w1 : World} {o : Obj} (hb1 : Below (w.alloc o).heap.size (w.alloc o) w1) : w1.heap[w.heap.size]? = some o ∧ Below w.heap.size w w1 ∧ w.heap.size + 1 ≤ w1.heap.size := by
  have hs := hb1.size
  rw [Deep.nblk_alloc] at hs
  exact ⟨(hb1.block _ (by rw [Deep.nblk_alloc]; omega)).trans (Deep.blk_alloc_new _ _), (box_below _ _).trans (hb1.mono (by rw [Deep.nblk_alloc]; omega)), hs⟩

/-! ### A sum of two expressions is laid -/
def AddW (w : World) (E : Nat) (o1 n1 : Int) (k1 : Value) (o2 n2 : Int) (k2 : Value) : World :=
  (((w.setCell ⟨E, 0, none⟩ (.int .i64 8)).setCell ⟨E, 1, none⟩ (.int .i64 0)).setCell ⟨E, 2, none⟩ (.slice (some ⟨w.heap.size, 0, none⟩) 2 2)).alloc (.cells #[.int .i64 o1, .int .i64 n1, k1, .int .i64 o2, .int .i64 n2, k2] 30)
theorem addW_size (w : World) (E : Nat) (o1 n1 : Int) (k1 : Value) (o2 n2 : Int) (k2 : Value) : (AddW w E o1 n1 k1 o2 n2 k2).heap.size = w.heap.size + 1 := by
  unfold AddW; rw [Deep.nblk_alloc, set3_size]
theorem addW_old (w : World) (E : Nat) (o1 n1 : Int) (k1 : Value) (o2 n2 : Int) (k2 : Value) {k : Nat} (hk : k < w.heap.size) (hE : k ≠ E) : (AddW w E o1 n1 k1 o2 n2 k2).heap[k]? = w.heap[k]? := by
  unfold AddW; rw [Deep.blk_alloc_lt _ _ _ (by rw [set3_size]; exact hk)]; exact set3_heap _ _ _ _ _ _ hE
theorem addW_new (w : World) (E : Nat) (o1 n1 : Int) (k1 : Value) (o2 n2 : Int) (k2 : Value) : (AddW w E o1 n1 k1 o2 n2 k2).heap[w.heap.size]? = some (.cells #[.int .i64 o1, .int .i64 n1, k1, .int .i64 o2, .int .i64 n2, k2] 30) := by
  have h := Deep.blk_alloc_new (((w.setCell ⟨E, 0, none⟩ (.int .i64 8)).setCell ⟨E, 1, none⟩ (.int .i64 0)).setCell ⟨E, 2, none⟩ (.slice (some ⟨w.heap.size, 0, none⟩) 2 2)) (.cells #[.int .i64 o1, .int .i64 n1, k1, .int .i64 o2, .int .i64 n2, k2] 30)
  rw [set3_size] at h
  exact h
theorem addW_box {w : World} {E : Nat} {a b c : Value} {T : TypeId} (h : w.heap[E]? = some (.cells #[a, b, c] T)) (o1 n1 : Int) (k1 : Value) (o2 n2 : Int) (k2 : Value) :
    (AddW w E o1 n1 k1 o2 n2 k2).heap[E]? = some (.cells #[.int .i64 8, .int .i64 0, .slice (some ⟨w.heap.size, 0, none⟩) 2 2] T) := by
  have hl : E < w.heap.size := (Array.getElem?_eq_some_iff.1 h).1
  unfold AddW
  rw [Deep.blk_alloc_lt _ _ _ (by rw [set3_size]; exact hl)]
  simp [World.setCell, Array.getElem?_modify, h]
theorem addW_but {w : World} {E b : Nat} {w0 : World} (h : But b w0 w) (hE : w0.heap.size ≤ E) (o1 n1 : Int) (k1 : Value) (o2 n2 : Int) (k2 : Value) : But b w0 (AddW w E o1 n1 k1 o2 n2 k2) :=
  (h.set3 hE _ _ _).trans (But.of_below (box_below _ _))
theorem addW_kids {w : World} {E lo hi : Nat} {t u : Tr} {k1 k2 : Value} (ht : I64 t.op ∧ I64 t.num) (hu : I64 u.op ∧ I64 u.num) (h1 : KidsOn w (Btw lo E) t.kids k1) (h2 : KidsOn w (Btw hi w.heap.size) u.kids k2) (hE : E < hi) (hl : lo ≤ E) (hw : hi ≤ w.heap.size) :
    KidsOn (AddW w E t.op t.num k1 u.op u.num k2) (Btw lo (w.heap.size + 1)) [t, u] (.slice (some ⟨w.heap.size, 0, none⟩) 2 2) := by
  refine ⟨_, 2, rfl, Nat.le_refl _, by simp [maxLen], Or.inr ⟨w.heap.size, 0, rfl, ⟨by omega, by omega⟩, ?_⟩⟩
  have hn := addW_new w E t.op t.num k1 u.op u.num k2
  have e1 : KidsOn (AddW w E t.op t.num k1 u.op u.num k2) (Btw lo (w.heap.size + 1)) t.kids k1 := h1.mono (fun k hk => ⟨hk.1, by have := hk.2; omega⟩) fun k hk => addW_old _ _ _ _ _ _ _ _ (by have := hk.2; omega) (by have := hk.2; omega)
  have e2 : KidsOn (AddW w E t.op t.num k1 u.op u.num k2) (Btw lo (w.heap.size + 1)) u.kids k2 := h2.mono (fun k hk => ⟨by have := hk.1; omega, by have := hk.2; omega⟩) fun k hk => addW_old _ _ _ _ _ _ _ _ (by have := hk.2; omega) (by have := hk.1; omega)
  simp only [RowOn]
  exact ⟨⟨_, _, _, cell_of_blk hn 0 _ rfl, cell_of_blk hn 1 _ rfl, cell_of_blk hn 2 _ rfl, trOn_iff.2 ⟨rfl, rfl, ht.1, ht.2, e1⟩⟩, ⟨_, _, _, cell_of_blk hn 3 _ rfl, cell_of_blk hn 4 _ rfl, cell_of_blk hn 5 _ rfl, trOn_iff.2 ⟨rfl, rfl, hu.1, hu.2, e2⟩⟩, trivial⟩

set_option maxRecDepth 100000 in
set_option maxHeartbeats 1600000 in
theorem l2Goal_calls (w : World) (b p : Nat) (h : RdOn w b p) (hp : p ≤ 1000000) : Calls Try.prog 81 #[.pointer (some ⟨b, 0, none⟩)] w (GoalD w b p) := by
  have hbw := h.lt
  have HR := mkHid h
  clear h
  go_enter Try.func81, Try.ntmps81
  go_wp2_with fail
  refine (l1TextsAt_calls _).mono ?_
  rintro e w1 ⟨g, rfl, hg1, hg2, hgc, hb1⟩
  obtain ⟨hx1, hbl1, hs1⟩ := boxed hb1
  have HX1 := mkHid hx1
  have HB1 : Hid (But b w w1) := But.of_below hbl1
  have HR1 : Hid (RdOn w1 b p) := HR.out.next hbl1
  clear hg1 hg2 hgc hb1 hx1 hbl1
  go_wp2_with fail
  refine (pick_calls 12 _ b p HR1.out (by omega) (by decide)).mono ?_
  rintro e w2 ⟨x, rfl, h0, h1, -, hr2, hb2⟩
  have HR2 := mkHid hr2
  have HB2 : Hid (But b w w2) := HB1.out.trans hb2
  have HX2 := mkHid ((hb2.block _ (by omega) (by omega)).trans HX1.out)
  have hs2 : w.heap.size + 1 ≤ w2.heap.size := Nat.le_trans hs1 hb2.size
  have hx : x < 12 := h1 (by decide)
  obtain ⟨k, rfl⟩ := Int.eq_ofNat_of_zero_le h0
  have hk : k < 12 := by omega
  clear h1 hr2 hb2 h0 hx
  go_wp2_with fail
  refine (l1TextsAt_calls w2).mono ?_
  rintro e w3 ⟨g3, rfl, hg1, hg2, hgc, hb3⟩
  have c3 : w3.cell? ⟨g3, k, none⟩ = some (.string (txS k)) := hgc k hk
  have HPP := mkHid (specParseProgram_calls (txS k) w3 (by have := txS_size k hk; omega))
  have HR3 := mkHid (HR2.out.next hb3)
  have HB3 : Hid (But b w w3) := HB2.out.trans (But.of_below hb3)
  have HX3 := mkHid ((hb3.block _ (by omega)).trans HX2.out)
  have hs3 : w.heap.size + 1 ≤ w3.heap.size := Nat.le_trans hs2 hb3.size
  clear hgc hb3
  go_wp2_with fail
  refine HPP.out.mono ?_
  rintro e w4 ⟨v, rfl, hd4, hb4⟩
  have HV := mkHid (parseP_valid (txS k))
  have HGV : Hid (∀ j, j < goN k → shB 0 ((parseP (txS k)).getD []).length 8 (parseE (goS k j)).1 = true ∧ 1 + szT (parseE (goS k j)).1 ≤ 40) := fun j hj => goals_valid k j hk hj
  obtain ⟨ok, hok⟩ : ∃ ok, ok = (parseP (txS k)).isSome := ⟨_, rfl⟩
  obtain ⟨ds, hds⟩ : ∃ ds, ds = (parseP (txS k)).getD [] := ⟨_, rfl⟩
  rw [← hok]
  rw [← hds] at hd4 HV HGV
  have HD4 : Hid (DefsOn w4 (PN (w.heap.size + 1) w4) ds v) := hd4.mono (fun k hk => hk.go hs3 rfl) fun _ _ => rfl
  have HR4 := mkHid (HR3.out.next hb4)
  have HB4 : Hid (But b w w4) := HB3.out.trans (But.of_below hb4)
  have HX4 := mkHid ((hb4.block _ (by omega)).trans HX3.out)
  have hs4 : w.heap.size + 1 ≤ w4.heap.size := Nat.le_trans hs3 hb4.size
  have hn6 : ds.length ≤ 6 := by
    have h := HV.out
    unfold progB at h
    simp only [Bool.and_eq_true, decide_eq_true_eq] at h
    exact h.1
  obtain ⟨adp, capp, rfl, hcp1, hcp2, -⟩ := id hd4
  unfold maxLen at hcp2
  clear hd4 hb4 hok hds c3 HPP
  go_wp2_with fail
  refine (pick_calls 4 _ b (p + 1) HR4.out (by omega) (by decide)).mono ?_
  rintro e w5 ⟨y, rfl, h0, h1, -, hr5, hb5⟩
  have HR5 := mkHid hr5
  have HB5 : Hid (But b w w5) := HB4.out.trans hb5
  have HX5 := mkHid ((hb5.block _ (by omega) (by omega)).trans HX4.out)
  have hs5 : w.heap.size + 1 ≤ w5.heap.size := Nat.le_trans hs4 hb5.size
  have HD5 := mkHid (defs_but HD4.out hb5 (by omega))
  clear h0 h1 hr5 hb5
  by_cases hy0 : y = 0
  · subst hy0
    go_wp2_with fail
    refine (num_calls [3, 4, 2] (.slice (some ⟨w5.heap.size, 0, none⟩) 3 3) _ b (p + 1 + 1) (HR5.out.next (box_below _ _)) (by omega) (ints_at w5 w5.heap.size rfl b [3, 4, 2] #[.int .i64 3, .int .i64 4, .int .i64 2] (by omega) rfl (ints_gen [3, 4, 2])) (by simp) (by simp)).mono ?_
    rintro e w6 ⟨z, rfl, hz, hr6, hb6⟩
    have hbb : But b w5 w6 := (But.of_below (box_below _ _)).trans hb6
    have HR6 := mkHid hr6
    have HB6 : Hid (But b w w6) := HB5.out.trans hbb
    have HX6 := mkHid ((hbb.block _ (by omega) (by omega)).trans HX5.out)
    have hs6 : w.heap.size + 1 ≤ w6.heap.size := Nat.le_trans hs5 hbb.size
    have HD6 := mkHid (defs_but HD5.out hbb (by omega))
    obtain ⟨d, hd, rfl⟩ := small_of hz (by decide)
    have h8 := some_le hd
    have HDL := mkHid hd
    clear hz hr6 hb6 hbb hd
    go_wp2_with fail
    refine (sm_any d (by have := HDL.out; omega) 0 ds.length w6 b (p + 1 + 1 + 1) (by omega) (by omega) HR6.out (by omega)).mono ?_
    rintro e w7 ⟨t, c, p7, rfl, hto, htn, hk7, hsz, hr7, hp7, hb7⟩
    have HT := mkHid (And.intro hto htn)
    have HVT := mkHid (some_valid hsz HDL.out (by omega) (by omega)).1
    have HB7 : Hid (But b w w7) := HB6.out.trans hb7
    have HX7 := (hb7.block _ (by omega) (by omega)).trans HX6.out
    have HD7 := mkHid (defs_but HD6.out hb7 (by omega))
    have HK7 := mkHid hk7
    have HR7 := mkHid hr7
    have hp7' : p7 ≤ p + 5000 := by omega
    have q0 := cell_of_blk HX7 0 _ rfl
    have q1 := cell_of_blk HX7 1 _ rfl
    have q2 := cell_of_blk HX7 2 _ rfl
    have qf := fun i => frz_of_blk HX7 i
    have hl7 := (Array.getElem?_eq_some_iff.1 HX7).1
    obtain ⟨ad7, cap7, rfl, -, -, -⟩ := id hk7
    clear hto htn hk7 hsz hr7 hp7 hb7 h8 HX7
    go_wp2_with fail
    refine bodyPost_ret (v := .tuple #[.slice adp ds.length capp, .agg #[.int .i64 t.op, .int .i64 t.num, .slice ad7 t.kids.length cap7]]) (by simp [results, Try.results81, go_sem, q0, q1, q2, qf, hl7]) rfl ?_
    exact goalD_of HV.out HVT.out HT.out (defs_set3 HD7.out (by omega) (by omega) _ _ _) (kids_set3 HK7.out (by omega) (by omega) (Nat.le_refl _) _ _ _) (HR7.out.set3 hbw _ _ _) hp7' (HB7.out.set3 (Nat.le_refl _) _ _ _)
  have hyb : (y == 0) = false := by simpa using hy0
  clear hy0
  go_wp2_with fail
  refine (l2Goals_calls w5).mono ?_
  rintro e w6 ⟨g6, rfl, hg1, hg2, hgc, hb6⟩
  obtain ⟨b6, hbl6, hbl6', c6, hgs⟩ := hgc k hk
  have HGS := mkHid hgs
  obtain ⟨hn2, hn7⟩ := goN_rng k hk
  obtain ⟨n, hn⟩ : ∃ n, n = goN k := ⟨_, rfl⟩
  rw [← hn] at c6 hn2 hn7 HGS HGV
  have HR6 := mkHid (HR5.out.next hb6)
  have HB6 : Hid (But b w w6) := HB5.out.trans (But.of_below hb6)
  have HX6 := mkHid ((hb6.block _ (by omega)).trans HX5.out)
  have hs6 : w.heap.size + 1 ≤ w6.heap.size := Nat.le_trans hs5 hb6.size
  have HD6 := mkHid (defs_but HD5.out (But.of_below (b := b) hb6) (by omega))
  clear hgc hb6 hgs hn
  go_wp2_with fail
  refine (pick_calls (n : Int) _ b (p + 1 + 1) HR6.out (by omega) (by omega)).mono ?_
  rintro e w7 ⟨z, rfl, h0, h1, -, hr7, hb7⟩
  obtain ⟨j, rfl⟩ := Int.eq_ofNat_of_zero_le h0
  have hj : j < n := by have := h1 (by omega); omega
  have HR7 := mkHid hr7
  have HB7 : Hid (But b w w7) := HB6.out.trans hb7
  have HX7 := mkHid ((hb7.block _ (by omega) (by omega)).trans HX6.out)
  have hs7 : w.heap.size + 1 ≤ w7.heap.size := Nat.le_trans hs6 hb7.size
  have HD7 := mkHid (defs_but HD6.out hb7 (by omega))
  have c7 : w7.cell? ⟨b6, j, none⟩ = some (.string (goS k j)) := (hb7.cell (p := ⟨b6, j, none⟩) hbl6' (by show b6 ≠ b; omega)).trans (HGS.out j hj)
  have HPE := mkHid (specParseExpr_calls (goS k j) w7 (by have := goS_size k j hk (by omega); omega))
  clear h0 h1 hr7 hb7
  go_wp2_with fail
  refine HPE.out.mono ?_
  rintro e w8 ⟨kv, rfl, hk8, hb8⟩
  have HVE := mkHid (HGV.out j hj)
  have HIE : Hid (I64 (parseE (goS k j)).1.op ∧ I64 (parseE (goS k j)).1.num) := parseE_i64 _
  obtain ⟨te, hte⟩ : ∃ te, te = (parseE (goS k j)).1 := ⟨_, rfl⟩
  obtain ⟨oke, hoke⟩ : ∃ oke, oke = (parseE (goS k j)).2 := ⟨_, rfl⟩
  rw [← hte, ← hoke]
  rw [← hte] at hk8 HVE HIE
  have HR8 := mkHid (HR7.out.next hb8)
  have HB8 : Hid (But b w w8) := HB7.out.trans (But.of_below hb8)
  have HX8 := mkHid ((hb8.block _ (by omega)).trans HX7.out)
  have hs8 : w.heap.size + 1 ≤ w8.heap.size := Nat.le_trans hs7 hb8.size
  have HD8 := mkHid (defs_but HD7.out (But.of_below (b := b) hb8) (by omega))
  have HK8 : Hid (KidsOn w8 (Btw (w.heap.size + 1) w8.heap.size) te.kids kv) := hk8.mono (fun k hk => ⟨Nat.le_trans hs7 hk.1, hk.2.1⟩) fun _ _ => rfl
  obtain ⟨ade, cape, rfl, -, -, -⟩ := id hk8
  clear hk8 hb8 hte hoke c7 HPE
  go_wp2_with fail
  refine (pick_calls 5 _ b (p + 1 + 1 + 1) (HR8.out.next (box_below _ _)) (by omega) (by decide)).mono ?_
  rintro e w9 ⟨y2, rfl, h0, h1, -, hr9, hb9⟩
  have hbb : But b w8 w9 := (But.of_below (box_below _ _)).trans hb9
  have HE9 := mkHid ((hb9.block w8.heap.size (by rw [Deep.nblk_alloc]; omega) (by omega)).trans (Deep.blk_alloc_new w8 _))
  have hs9 : w8.heap.size + 1 ≤ w9.heap.size := by have := hb9.size; rw [Deep.nblk_alloc] at this; omega
  have HR9 := mkHid hr9
  have HB9 : Hid (But b w w9) := HB8.out.trans hbb
  have HX9 := mkHid ((hbb.block _ (by omega) (by omega)).trans HX8.out)
  have HD9 := mkHid (defs_but HD8.out hbb (by omega))
  have HK9 := mkHid (kids_but HK8.out hbb (by omega) (Nat.le_refl _))
  have HB89 : Hid (But b w8 w9) := hbb
  clear h0 h1 hr9 hb9 hbb
  by_cases hy2 : y2 = 0
  · subst hy2
    have a0 := cell_of_blk HE9.out 0 _ rfl
    have a1 := cell_of_blk HE9.out 1 _ rfl
    have a2 := cell_of_blk HE9.out 2 _ rfl
    go_wp2_with fail
    have hw8 : w8.heap.size < w9.heap.size := by omega
    have HC : Hid (Calls Try.prog 62 #[.pointer (some ⟨b, 0, none⟩), .int .i64 0, .int .i64 (ds.length : Int), .int .i64 2] w9.drew (SomeTr 0 ds.length 2 w9.drew b (p + 1 + 1 + 1 + 1))) := sm_any 2 (by omega) 0 ds.length w9.drew b (p + 1 + 1 + 1 + 1) (by omega) (by omega) HR9.out.drew (by omega)
    go_region_with ((go_at_call 62; go_must (refine HC.out.mono ?_); go_must (rintro e w10 ⟨t2, c2, p10, rfl, hto, htn, hk10, hsz, hr10, hp10, hb10'⟩); go_must (have hb10 : But b w9 w10 := (But.refl b w9).drew.trans hb10'); go_must (have HB8A : Hid (But b w8 w10) := HB89.out.trans hb10); go_must (have HX10 := mkHid ((hb10.block _ (by omega) (by omega)).trans HX9.out)); go_must (have HE10 := mkHid ((hb10.block _ (by omega) (by omega)).trans HE9.out)); go_must (have HD10 := mkHid (defs_but HD9.out hb10 (by omega))); go_must (have HK10 := mkHid (kids_but HK9.out hb10 (by omega) (by omega))); go_must (have HK2 := mkHid hk10); go_must (have HR10 := mkHid hr10); go_must (have HB10 : Hid (But b w w10) := HB9.out.trans hb10); go_must (have HS10 : Hid (w9.heap.size ≤ w10.heap.size) := hb10.size); go_must (have HT2 := mkHid (And.intro hto htn)); go_must (have HZ2 := mkHid (some_valid hsz (by omega) (by omega) (by omega))); go_must (have HSH := mkHid hsz); go_must (have hp10' : p10 ≤ p + 1000 := by omega); go_must (have b0 := cell_of_blk HE10.out 0 _ rfl); go_must (have b1 := cell_of_blk HE10.out 1 _ rfl); go_must (have b2 := cell_of_blk HE10.out 2 _ rfl); go_must (have bl10 : w8.heap.size < w10.heap.size := Nat.lt_of_lt_of_le hw8 HS10.out); go_must (have bf := fun i => frz_of_blk HE10.out i); go_must (have ba := fun (o : Obj) i => frz_of_blk ((Deep.blk_alloc_lt w10 o _ bl10).trans HE10.out) i);  go_must (obtain ⟨ad10, cap10, rfl, -, -, -⟩ := id hk10); go_must (clear hto htn hk10 hsz hr10 hp10 hb10 hb10')))
    all_goals
      obtain ⟨W, hW⟩ : ∃ W, W = AddW w10 w8.heap.size te.op te.num (.slice ade te.kids.length cape) t2.op t2.num (.slice ad10 t2.kids.length cap10) := ⟨_, rfl⟩
      have hW' := hW
      unfold AddW at hW'
      rw [← hW']
      have hz8 : w.heap.size + 1 ≤ w8.heap.size := hs8
      have HWB : Hid (But b w W) := by rw [hW]; exact addW_but HB10.out (by omega) _ _ _ _ _ _
      have HWR : Hid (RdOn W b p10) := by rw [hW]; exact HR10.out.keep fun k hk => addW_old _ _ _ _ _ _ _ _ (by omega) (by omega)
      have HWX : Hid (W.heap[w.heap.size]? = some zeroE) := by rw [hW]; exact (addW_old _ _ _ _ _ _ _ _ (by omega) (by omega)).trans HX10.out
      have HWE : Hid (W.heap[w8.heap.size]? = some (.cells #[.int .i64 8, .int .i64 0, .slice (some ⟨w10.heap.size, 0, none⟩) 2 2] 30)) := by rw [hW]; exact addW_box HE10.out _ _ _ _ _ _
      have HWS : Hid (W.heap.size = w10.heap.size + 1) := by rw [hW]; exact addW_size _ _ _ _ _ _ _ _
      have HWK : Hid (KidsOn W (Btw (w.heap.size + 1) (w10.heap.size + 1)) [te, t2] (.slice (some ⟨w10.heap.size, 0, none⟩) 2 2)) := by rw [hW]; exact addW_kids HIE.out HT2.out HK10.out HK2.out (by show w8.heap.size < w9.heap.size; omega) (by omega) HS10.out
      have HWD : Hid (DefsOn W (PN (w.heap.size + 1) W) ds (.slice adp ds.length capp)) := by
        have heq : ∀ k, PN (w.heap.size + 1) w8 k → W.heap[k]? = w8.heap[k]? := fun k hk => by
          have h1 := hk.1
          have h2 := hk.2.1
          rw [hW]
          exact (addW_old _ _ _ _ _ _ _ _ (by have := HB8A.out.size; omega) (by omega)).trans (HB8A.out.block k h2 (by omega))
        exact HD8.out.mono (fun k hk => hk.go (Nat.le_refl _) (heq k hk)) heq
      have HVT : Hid (validB (.node 8 0 [te, t2]) 0 ds.length = true) := by
        have h1 := HVE.out
        have h2 := HZ2.out
        have h3 := shB_deeper (ddp 2) 8 t2 (by decide) HSH.out.2
        exact valid_of_sh (sh_add h1.1 h3) (by omega) (by rw [add_size]; have := HSH.out.1; rw [← szT_eq] at this; have : (4 : Nat) ^ 2 = 16 := rfl; omega) (by omega) (by omega)
      clear hW hW'
      have q0 := cell_of_blk HWX.out 0 _ rfl
      have q1 := cell_of_blk HWX.out 1 _ rfl
      have q2 := cell_of_blk HWX.out 2 _ rfl
      have qf := fun i => frz_of_blk HWX.out i
      have hlW := (Array.getElem?_eq_some_iff.1 HWX.out).1
      have e0 := cell_of_blk HWE.out 0 _ rfl
      have e1 := cell_of_blk HWE.out 1 _ rfl
      have e2 := cell_of_blk HWE.out 2 _ rfl
      have hne : w8.heap.size ≠ w.heap.size := by omega
      have hne2 : w.heap.size ≠ w8.heap.size := by omega
      clear a0 a1 a2 b0 b1 b2 bf ba
      go_wp2_with fail
      go_region
      go_wp2_with fail
      refine bodyPost_ret (v := .tuple #[.slice adp ds.length capp, .agg #[.int .i64 8, .int .i64 0, .slice (some ⟨w10.heap.size, 0, none⟩) 2 2]]) (by simp [results, Try.results81, go_sem, q0, q1, q2, qf, hlW]) rfl ?_
      refine GoalD.drew ?_
      exact goalD_of (t := .node 8 0 [te, t2]) HV.out HVT.out ⟨by simp [I64], by simp [I64]⟩ (defs_set3 HWD.out (by omega) (by omega) _ _ _) (kids_set3 HWK.out (by omega) (by omega) (by rw [HWS.out]; exact Nat.le_refl _) _ _ _) (HWR.out.set3 hbw _ _ _) (by omega) (HWB.out.set3 (Nat.le_refl _) _ _ _)
  have hy2b : (y2 == 0) = false := by simpa using hy2
  clear hy2
  have a0 := cell_of_blk HE9.out 0 _ rfl
  have a1 := cell_of_blk HE9.out 1 _ rfl
  have a2 := cell_of_blk HE9.out 2 _ rfl
  have q0 := cell_of_blk HX9.out 0 _ rfl
  have q1 := cell_of_blk HX9.out 1 _ rfl
  have q2 := cell_of_blk HX9.out 2 _ rfl
  have qf := fun i => frz_of_blk HX9.out i
  have hl9 := (Array.getElem?_eq_some_iff.1 HX9.out).1
  have hne : w8.heap.size ≠ w.heap.size := by omega
  have hne2 : w.heap.size ≠ w8.heap.size := by omega
  have HVT : Hid (validB te 0 ds.length = true) := valid_of_sh HVE.out.1 (by omega) (by have := HVE.out.2; omega) (by omega) (by omega)
  go_wp2_with fail
  go_region
  go_wp2_with fail
  refine bodyPost_ret (v := .tuple #[.slice adp ds.length capp, .agg #[.int .i64 te.op, .int .i64 te.num, .slice ade te.kids.length cape]]) (by simp [results, Try.results81, go_sem, q0, q1, q2, qf, hl9]) rfl ?_
  refine GoalD.drew ?_
  exact goalD_of HV.out HVT.out HIE.out (defs_set3 HD9.out (by omega) (by omega) _ _ _) (kids_set3 HK9.out (by omega) (by omega) (by omega) _ _ _) (HR9.out.set3 hbw _ _ _) (by omega) (HB9.out.set3 (Nat.le_refl _) _ _ _)
end Go.Proofs.Ytjdlfpdljmohiaa
/-
  PLAIN: the cells of an expression, added to a graph. No program is named here.
-/
namespace Go.Proofs.Ytjdlfpdljmohiaa
set_option linter.unusedVariables false
set_option linter.unusedSimpArgs false

mutual
/-- the graph with the cells of a tree, and the tree's cell -/
def addT (args : List Nat) : Tr → List Ce → List Ce × Nat
  | .node op n ks, g => if op = 1 then (g, args.getD n.toNat 0) else ((addL args ks g).1 ++ [⟨op, n, (addL args ks g).2.map fun (a : Nat) => (a : Int)⟩], (addL args ks g).1.length)
/-- .. of the trees of a list, one behind the other -/
def addL (args : List Nat) : List Tr → List Ce → List Ce × List Nat
  | [], g => (g, [])
  | t :: ts, g => ((addL args ts (addT args t g).1).1, (addT args t g).2 :: (addL args ts (addT args t g).1).2)
end
theorem addT_var {args : List Nat} {t : Tr} (g : List Ce) (h : t.op = 1) : addT args t g = (g, args.getD t.num.toNat 0) := by
  cases t with
  | node op n ks => simp only [Tr.op_node] at h; simp [addT, h]
theorem addT_other {args : List Nat} {t : Tr} (g : List Ce) (h : ¬ t.op = 1) : addT args t g = ((addL args t.kids g).1 ++ [⟨t.op, t.num, (addL args t.kids g).2.map fun (a : Nat) => (a : Int)⟩], (addL args t.kids g).1.length) := by
  cases t with
  | node op n ks => simp only [Tr.op_node] at h; simp [addT, h]
theorem addL_snoc (args : List Nat) : ∀ (ts : List Tr) (t : Tr) (g : List Ce), addL args (ts ++ [t]) g = ((addT args t (addL args ts g).1).1, (addL args ts g).2 ++ [(addT args t (addL args ts g).1).2])
  | [], t, g => by simp [addL]
  | x :: ts, t, g => by
    have := addL_snoc args ts t (addT args x g).1
    simp only [List.cons_append, addL, this]
theorem addL_length (args : List Nat) : ∀ (ts : List Tr) (g : List Ce), (addL args ts g).2.length = ts.length
  | [], g => by simp [addL]
  | x :: ts, g => by simp [addL, addL_length args ts]
theorem addL_take_succ (args : List Nat) (ts : List Tr) (g : List Ce) (k : Nat) (hk : k < ts.length) : addL args (ts.take (k + 1)) g = ((addT args ts[k] (addL args (ts.take k) g).1).1, (addL args (ts.take k) g).2 ++ [(addT args ts[k] (addL args (ts.take k) g).1).2]) := by
  rw [List.take_succ_eq_append_getElem hk, addL_snoc]
theorem sumK_one (c : Ce) : sumK [c] = c.kids.length := by simp [sumK]
mutual
theorem addT_size (args : List Nat) : ∀ (t : Tr) (g : List Ce), g.length ≤ (addT args t g).1.length ∧ (addT args t g).1.length ≤ g.length + 1 + szT t ∧ sumK (addT args t g).1 ≤ sumK g + szT t
  | .node op n ks, g => by
    have h := addL_size args ks g
    have hl := addL_length args ks g
    unfold addT
    split
    · simp only [szT]; omega
    · have e : sumK ((addL args ks g).1 ++ [⟨op, n, (addL args ks g).2.map fun (a : Nat) => (a : Int)⟩]) = sumK (addL args ks g).1 + ks.length := by
        rw [sumK_append, sumK_one]; simp [hl]
      have e2 : szL ks = ks.length + sumT ks := szL_sum ks
      simp only [List.length_append, List.length_cons, List.length_nil, szT, e]
      have h3 := h.2.2
      omega
theorem addL_size (args : List Nat) : ∀ (ts : List Tr) (g : List Ce), g.length ≤ (addL args ts g).1.length ∧ (addL args ts g).1.length ≤ g.length + szL ts ∧ sumK (addL args ts g).1 ≤ sumK g + sumT ts
  | [], g => by simp [addL, szL, sumT]
  | t :: ts, g => by
    have h1 := addT_size args t g
    have h2 := addL_size args ts (addT args t g).1
    simp only [addL, szL, sumT_cons]
    omega
end
end Go.Proofs.Ytjdlfpdljmohiaa
/-
  PAIRS OF PLACES: what a list of pairs still to be compared, and the pairs seen, say of two trees. No program is named here.
-/
namespace Go.Proofs.Ytjdlfpdljmohiaa
set_option linter.unusedVariables false
set_option linter.unusedSimpArgs false
open Go.RowKit

/-- the place of operand i of the tree at a place -/
def KidAt (w : World) (x : Addr) (i : Nat) (z : Addr) : Prop :=
  ∃ bl off kb ko n cap, x = ⟨bl, off, none⟩ ∧ w.cell? ⟨bl, off + 2, none⟩ = some (.slice (some ⟨kb, ko, none⟩) n cap) ∧ z = ⟨kb, ko + i * 3, none⟩
theorem KidAt.uniq {w : World} {x z z' : Addr} {i : Nat} (h : KidAt w x i z) (h' : KidAt w x i z') : z = z' := by
  obtain ⟨bl, off, kb, ko, n, cap, rfl, hc, rfl⟩ := h
  obtain ⟨bl', off', kb', ko', n', cap', e, hc', rfl⟩ := h'
  simp only [Addr.mk.injEq] at e
  obtain ⟨rfl, rfl, -⟩ := e
  rw [hc] at hc'
  simp only [Option.some.injEq, Value.slice.injEq, Addr.mk.injEq] at hc'
  obtain ⟨⟨rfl, rfl, -⟩, -⟩ := hc'
  rfl
theorem LiesAt.kid {w : World} {S : Nat → Prop} {x : Addr} {s : Tr} (h : LiesAt w S x s) (i : Nat) (hi : i < s.kids.length) : ∃ z, KidAt w x i z ∧ LiesAt w S z s.kids[i] := by
  obtain ⟨bl, off, a, b, c, rfl, hs, h0, h1, h2, ht⟩ := h
  obtain ⟨-, -, -, -, ad, cap, rfl, -, -, hr⟩ := trOn_iff.1 ht
  rcases hr with hr | ⟨kb, ko, rfl, hk, hr⟩
  · rw [hr] at hi; simp at hi
  · exact ⟨_, ⟨bl, off, kb, ko, _, _, rfl, h2, rfl⟩, RowOn.liesAt hi hk hr⟩
theorem KidAt.lies {w : World} {S : Nat → Prop} {x z : Addr} {s : Tr} {i : Nat} (h : KidAt w x i z) (hx : LiesAt w S x s) (hi : i < s.kids.length) : LiesAt w S z s.kids[i] := by
  obtain ⟨z', hz, hl⟩ := hx.kid i hi
  rw [h.uniq hz]
  exact hl

/-- two places and their trees -/
structure Wk where
  x : Addr
  y : Addr
  s : Tr
  t : Tr
def Wk.key (e : Wk) : Addr × Addr := (e.x, e.y)
def WkOk (w : World) (S : Nat → Prop) (Q : Prop) (e : Wk) : Prop := LiesAt w S e.x e.s ∧ LiesAt w S e.y e.t ∧ (Q → e.s = e.t)
/-- trees lie at both places -/
def Pair2 (w : World) (S : Nat → Prop) (k : Addr × Addr) : Prop := ∃ s t, LiesAt w S k.1 s ∧ LiesAt w S k.2 t
abbrev Mp := Addr × Addr → Option Value
/-- the first operands of both are at one place, or have been seen -/
def KidsSeen (w : World) (M : Mp) (k : Addr × Addr) (m : Nat) : Prop := ∀ i, i < m → ∀ z z', KidAt w k.1 i z → KidAt w k.2 i z' → z = z' ∨ (M (z, z')).isSome = true
def Done (w : World) (S : Nat → Prop) (M : Mp) (k : Addr × Addr) : Prop := ∀ s t, LiesAt w S k.1 s → LiesAt w S k.2 t → s.op = t.op ∧ s.num = t.num ∧ s.kids.length = t.kids.length ∧ KidsSeen w M k s.kids.length
def Seen (root : Addr × Addr) (M : Mp) (k : Addr × Addr) : Prop := k = root ∨ (M k).isSome = true
def Inv (w : World) (S : Nat → Prop) (root : Addr × Addr) (M : Mp) (l : List Wk) (cur : Option (Addr × Addr)) : Prop :=
  ∀ k, Seen root M k → cur = some k ∨ (∃ e ∈ l, e.key = k) ∨ Done w S M k

theorem pput_some {κ : Type} [DecidableEq κ] {M : κ → Option Value} {a : κ} {v : Value} {k : κ} (h : (M k).isSome = true) : (pput M a v k).isSome = true := by
  unfold pput; split <;> simp_all
theorem KidsSeen.put {w : World} {M : Mp} {k a : Addr × Addr} {m : Nat} {v : Value} (h : KidsSeen w M k m) : KidsSeen w (pput M a v) k m :=
  fun i hi z z' hz hz' => (h i hi z z' hz hz').imp id pput_some
theorem Done.put {w : World} {S : Nat → Prop} {M : Mp} {k a : Addr × Addr} {v : Value} (h : Done w S M k) : Done w S (pput M a v) k :=
  fun s t hs ht => by
    obtain ⟨h1, h2, h3, h4⟩ := h s t hs ht
    exact ⟨h1, h2, h3, h4.put⟩

theorem Inv.start (w : World) (S : Nat → Prop) (e : Wk) : Inv w S e.key (fun _ => none) [e] none := by
  intro k hk
  rcases hk with rfl | hk
  · exact Or.inr (Or.inl ⟨e, by simp, rfl⟩)
  · simp at hk
theorem Inv.pop {w : World} {S : Nat → Prop} {root : Addr × Addr} {M : Mp} {l : List Wk} {e : Wk} (h : Inv w S root M (l ++ [e]) none) : Inv w S root M l (some e.key) := by
  intro k hk
  rcases h k hk with h | ⟨d, hd, hdk⟩ | h
  · cases h
  · rw [List.mem_append] at hd
    rcases hd with hd | hd
    · exact Or.inr (Or.inl ⟨d, hd, hdk⟩)
    · rw [List.mem_singleton] at hd
      subst hd
      exact Or.inl (by rw [hdk])
  · exact Or.inr (Or.inr h)
theorem Inv.push {w : World} {S : Nat → Prop} {root : Addr × Addr} {M : Mp} {l : List Wk} {cur : Option (Addr × Addr)} (h : Inv w S root M l cur) (e : Wk) (v : Value) : Inv w S root (pput M e.key v) (l ++ [e]) cur := by
  intro k hk
  by_cases hke : k = e.key
  · exact Or.inr (Or.inl ⟨e, by simp, hke.symm⟩)
  · have hk' : Seen root M k := by
      rcases hk with hk | hk
      · exact Or.inl hk
      · rw [pput_other _ _ hke] at hk; exact Or.inr hk
    rcases h k hk' with h | ⟨d, hd, hdk⟩ | h
    · exact Or.inl h
    · exact Or.inr (Or.inl ⟨d, by simp [hd], hdk⟩)
    · exact Or.inr (Or.inr h.put)
theorem Inv.close {w : World} {S : Nat → Prop} {root : Addr × Addr} {M : Mp} {l : List Wk} {k0 : Addr × Addr} (h : Inv w S root M l (some k0)) (hd : Done w S M k0) : Inv w S root M l none := by
  intro k hk
  rcases h k hk with h | h | h
  · cases h; exact Or.inr (Or.inr hd)
  · exact Or.inr (Or.inl h)
  · exact Or.inr (Or.inr h)
theorem KidsSeen.zero (w : World) (M : Mp) (k : Addr × Addr) : KidsSeen w M k 0 := fun i hi => absurd hi (by omega)
theorem KidsSeen.succ {w : World} {M : Mp} {k : Addr × Addr} {m : Nat} {z z' : Addr} (h : KidsSeen w M k m) (hz : KidAt w k.1 m z) (hz' : KidAt w k.2 m z') (hs : z = z' ∨ (M (z, z')).isSome = true) : KidsSeen w M k (m + 1) := by
  intro i hi y y' hy hy'
  by_cases e : i = m
  · subst e
    rw [hy.uniq hz, hy'.uniq hz']
    exact hs
  · exact h i (by omega) y y' hy hy'
theorem Done.of {w : World} {S : Nat → Prop} {M : Mp} {e : Wk} {Q : Prop} (he : WkOk w S Q e) (h1 : e.s.op = e.t.op) (h2 : e.s.num = e.t.num) (h3 : e.s.kids.length = e.t.kids.length) (h4 : KidsSeen w M e.key e.s.kids.length) : Done w S M e.key := by
  intro s t hs ht
  rw [LiesAt.uniq hs he.1, LiesAt.uniq ht he.2.1]
  exact ⟨h1, h2, h3, h4⟩

theorem tr_ext2 {a b : Tr} (h1 : a.op = b.op) (h2 : a.num = b.num) (h3 : a.kids = b.kids) : a = b := by cases a; cases b; simp_all

/-- nothing is left to compare: the trees of every pair seen are equal -/
theorem Inv.done {w : World} {S : Nat → Prop} {root : Addr × Addr} {M : Mp} (h : Inv w S root M [] none) : ∀ (n : Nat) (k : Addr × Addr) (s t : Tr), szT s ≤ n → Seen root M k → LiesAt w S k.1 s → LiesAt w S k.2 t → s = t := by
  intro n
  induction n using Nat.strongRecOn with
  | ind n ih =>
    intro k s t hz hk hs ht
    rcases h k hk with h | ⟨e, he, -⟩ | h
    · cases h
    · simp at he
    · obtain ⟨h1, h2, h3, h4⟩ := h s t hs ht
      refine tr_ext2 h1 h2 (List.ext_getElem h3 fun i hi hi' => ?_)
      obtain ⟨z, hz1, hl⟩ := hs.kid i hi
      obtain ⟨z', hz2, hl'⟩ := ht.kid i hi'
      rcases h4 i hi z z' hz1 hz2 with e | hsn
      · subst e
        exact LiesAt.uniq hl hl'
      · have hlt := szT_lt_szL s.kids i hi
        rw [← szT_eq] at hlt
        exact ih (szT s.kids[i]) (by omega) (z, z') _ _ (Nat.le_refl _) (Or.inr hsn) hl hl'

/-- how much there is to compare -/
def wkSz (l : List Wk) : Nat := (l.map fun e => 1 + szT e.s).sum
theorem wkSz_snoc (l : List Wk) (e : Wk) : wkSz (l ++ [e]) = wkSz l + (1 + szT e.s) := by simp [wkSz]
theorem wkSz_len (l : List Wk) : l.length ≤ wkSz l := by
  induction l with
  | nil => simp [wkSz]
  | cons e l ih => simp only [wkSz, List.map_cons, List.sum_cons, List.length_cons] at ih ⊢; omega

/-- pairs, as cells -/
def wkCells (l : List Wk) : List Value := l.flatMap fun e => [.pointer (some e.x), .pointer (some e.y)]
theorem wkCells_length (l : List Wk) : (wkCells l).length = l.length * 2 := by
  induction l with
  | nil => rfl
  | cons d l ih =>
    show ([_, _] ++ wkCells l).length = _
    rw [List.length_append, ih]
    simp
    omega
theorem wkCells_snoc (l : List Wk) (e : Wk) : wkCells (l ++ [e]) = wkCells l ++ [.pointer (some e.x), .pointer (some e.y)] := by simp [wkCells]
theorem wkCells_one (l : List Wk) : ∀ u ∈ wkCells l, u.oneCell' = true := by
  intro u hu
  simp only [wkCells, List.mem_flatMap] at hu
  obtain ⟨d, -, hu⟩ := hu
  simp only [List.mem_cons, List.not_mem_nil, or_false] at hu
  rcases hu with rfl | rfl <;> rfl

/-- an owned row, cut at its end -/
theorem own_cut {w : World} {base size n m g cap : Nat} {T : TypeId} {xs ys : List Value} (h : w.ownsRow base T size (.slice (some ⟨g, 0, none⟩) n cap) n (xs ++ ys)) (hl : xs.length = m * size) (hm : m ≤ n) : w.ownsRow base T size (.slice (some ⟨g, 0, none⟩) m cap) m xs := by
  obtain ⟨h1, h2⟩ := h
  rcases h2 with ⟨h2, -⟩ | ⟨g', cap', cur, e, hg, hh, hn, hc, hs, htk⟩
  · cases h2
  · cases e
    refine ⟨hl, Or.inr ⟨_, _, cur, rfl, hg, hh, by omega, hc, hs, ?_⟩⟩
    have h3 : m * size ≤ n * size := Nat.mul_le_mul_right _ hm
    have := congrArg (List.take (m * size)) htk
    rw [List.take_take, Nat.min_eq_left h3] at this
    rw [this, ← hl, List.take_left]
theorem own_at {w : World} {base size n g cap : Nat} {T : TypeId} {xs : List Value} (h : w.ownsRow base T size (.slice (some ⟨g, 0, none⟩) n cap) n xs) (j : Nat) (u : Value) (hu : xs[j]? = some u) : w.cell? ⟨g, j, none⟩ = some u := by
  rcases h.2 with ⟨h2, -⟩ | ⟨g', cap', cur, e, hg, hh, hn, hc, hs, htk⟩
  · cases h2
  · cases e
    have hlt : j < n * size := by
      have := (List.getElem?_eq_some_iff.1 hu).1
      rw [h.1] at this
      exact this
    rw [← htk, List.getElem?_take_of_lt hlt, Array.getElem?_toList] at hu
    simp only [World.cell?, hh]
    exact hu
end Go.Proofs.Ytjdlfpdljmohiaa
/-
  COUNTING NODES: a path of nodes that are being counted, and the counts that are known; what they say of a tree. No program is named here.
-/
namespace Go.Proofs.Ytjdlfpdljmohiaa
set_option linter.unusedVariables false
set_option linter.unusedSimpArgs false
open Go.RowKit

mutual
/-- how many nodes of a tree are wanted -/
def cntT (p : Tr → Bool) : Tr → Nat
  | .node o n ks => (if p (.node o n ks) then 1 else 0) + cntL p ks
/-- .. of a list of trees -/
def cntL (p : Tr → Bool) : List Tr → Nat
  | [] => 0
  | t :: ts => cntT p t + cntL p ts
end
theorem cntT_eq (p : Tr → Bool) (t : Tr) : cntT p t = (if p t then 1 else 0) + cntL p t.kids := by cases t; simp [cntT]
theorem cntL_sum (p : Tr → Bool) : ∀ (l : List Tr), cntL p l = (l.map (cntT p)).sum
  | [] => by simp [cntL]
  | t :: ts => by rw [cntL, cntL_sum p ts]; simp
theorem cntL_take_succ (p : Tr → Bool) (l : List Tr) (i : Nat) (h : i < l.length) : cntL p (l.take (i + 1)) = cntL p (l.take i) + cntT p l[i] := by
  rw [cntL_sum, cntL_sum, List.take_succ_eq_append_getElem h, List.map_append, List.sum_append]; simp
mutual
theorem cntT_le (p : Tr → Bool) : ∀ t : Tr, cntT p t ≤ 1 + szT t
  | .node o n ks => by
    have := cntL_le p ks
    simp only [cntT, szT]
    split <;> omega
theorem cntL_le (p : Tr → Bool) : ∀ l : List Tr, cntL p l ≤ szL l
  | [] => by simp [cntL, szL]
  | t :: ts => by
    have := cntT_le p t
    have := cntL_le p ts
    simp only [cntL, szL]
    omega
end
theorem cntL_take_le (p : Tr → Bool) (l : List Tr) (i : Nat) : cntL p (l.take i) ≤ szL l := Nat.le_trans (cntL_le p _) (szL_take_le l i)
mutual
theorem cntT_all : ∀ t : Tr, cntT (fun _ => true) t = 1 + szT t
  | .node o n ks => by
    have := cntL_all ks
    simp only [cntT, szT]
    simp [this]
theorem cntL_all : ∀ l : List Tr, cntL (fun _ => true) l = szL l
  | [] => by simp [cntL, szL]
  | t :: ts => by
    have := cntT_all t
    have := cntL_all ts
    simp only [cntL, szL]
    omega
end

/-- a node that is being counted: where, its tree, the operands counted, the sum so far -/
structure Fr where
  x : Addr
  t : Tr
  nx : Nat
  sm : Nat
abbrev Mc := Addr → Option Value
/-- the place of operand i, as a function -/
def kidAddr (w : World) (x : Addr) (i : Nat) : Addr :=
  match w.cell? ⟨x.block, x.off + 2, none⟩ with
  | some (.slice (some a) _ _) => ⟨a.block, a.off + i * 3, none⟩
  | _ => x
theorem KidAt.addr {w : World} {x z : Addr} {i : Nat} (h : KidAt w x i z) : kidAddr w x i = z := by
  obtain ⟨bl, off, kb, ko, n, cap, rfl, hc, rfl⟩ := h
  simp [kidAddr, hc]
def FrOk (w : World) (S : Nat → Prop) (p : Tr → Bool) (f : Fr) : Prop :=
  LiesAt w S f.x f.t ∧ f.nx ≤ f.t.kids.length ∧ f.sm = (if p f.t then 1 else 0) + cntL p (f.t.kids.take f.nx)
/-- the nodes lie in one another, the last one innermost -/
def Nest : List Fr → Prop
  | [] => True
  | f :: fs => (∀ g ∈ fs, szT g.t < szT f.t) ∧ Nest fs
theorem Nest.snoc : ∀ {l : List Fr} {f : Fr}, Nest l → (∀ g ∈ l, szT f.t < szT g.t) → Nest (l ++ [f])
  | [], f, _, _ => by simp [Nest]
  | g :: l, f, h, hf => by
    simp only [List.cons_append, Nest] at h ⊢
    refine ⟨fun d hd => ?_, Nest.snoc h.2 fun d hd => hf d (by simp [hd])⟩
    rw [List.mem_append] at hd
    rcases hd with hd | hd
    · exact h.1 d hd
    · rw [List.mem_singleton] at hd; subst hd; exact hf g (by simp)
theorem Nest.init : ∀ {l : List Fr} {f : Fr}, Nest (l ++ [f]) → Nest l ∧ ∀ g ∈ l, szT f.t < szT g.t
  | [], f, _ => by simp [Nest]
  | g :: l, f, h => by
    simp only [List.cons_append, Nest] at h ⊢
    obtain ⟨h1, h2⟩ := Nest.init h.2
    refine ⟨⟨fun d hd => h.1 d (by simp [hd]), h1⟩, fun d hd => ?_⟩
    rw [List.mem_cons] at hd
    rcases hd with rfl | hd
    · exact h.1 f (by simp)
    · exact h2 d hd
/-- what is known: a count, or that the node is on the path -/
def Known (w : World) (S : Nat → Prop) (p : Tr → Bool) (l : List Fr) (k : Addr) (v : Value) : Prop :=
  ∃ t, LiesAt w S k t ∧ (v = .int .i64 (cntT p t) ∨ (v = .int .i64 (-1) ∧ ∃ f ∈ l, f.x = k))
def TInv (w : World) (S : Nat → Prop) (p : Tr → Bool) (M : Mc) (l : List Fr) : Prop :=
  (∀ f ∈ l, FrOk w S p f) ∧ Nest l ∧ ∀ k v, M k = some v → Known w S p l k v

/-- what is still to be done -/
def wtOf (M : Mc) (k : Addr) (t : Tr) : Nat := if (M k).isSome then 1 else 3 * (1 + szT t)
def remL (w : World) (M : Mc) (x : Addr) : Nat → List Tr → Nat
  | _, [] => 0
  | i, k :: ks => wtOf M (kidAddr w x i) k + remL w M x (i + 1) ks
def remF (w : World) (M : Mc) (f : Fr) : Nat := remL w M f.x f.nx (f.t.kids.drop f.nx)
def remP (w : World) (M : Mc) (l : List Fr) : Nat := (l.map (remF w M)).sum + l.length
theorem wtOf_put (M : Mc) (a k : Addr) (v : Value) (t : Tr) : wtOf (pput M a v) k t ≤ wtOf M k t := by
  unfold wtOf
  by_cases h : (M k).isSome = true
  · rw [if_pos h, if_pos (pput_some h)]; exact Nat.le_refl _
  · rw [if_neg h]; split <;> omega
theorem remL_put (w : World) (M : Mc) (a x : Addr) (v : Value) : ∀ (l : List Tr) (i : Nat), remL w (pput M a v) x i l ≤ remL w M x i l
  | [], _ => by simp [remL]
  | k :: ks, i => by
    have := remL_put w M a x v ks (i + 1)
    have := wtOf_put M a (kidAddr w x i) v k
    simp only [remL]
    omega
theorem remP_put (w : World) (M : Mc) (a : Addr) (v : Value) : ∀ (l : List Fr), (l.map (remF w (pput M a v))).sum ≤ (l.map (remF w M)).sum
  | [] => by simp
  | f :: l => by
    have := remP_put w M a v l
    have := remL_put w M a f.x v (f.t.kids.drop f.nx) f.nx
    simp only [List.map_cons, List.sum_cons, remF] at this ⊢
    omega
theorem remL_le (w : World) (M : Mc) (x : Addr) : ∀ (l : List Tr) (i : Nat), remL w M x i l ≤ 3 * szL l
  | [], _ => by simp [remL, szL]
  | k :: ks, i => by
    have := remL_le w M x ks (i + 1)
    have : wtOf M (kidAddr w x i) k ≤ 3 * (1 + szT k) := by unfold wtOf; split <;> omega
    simp only [remL, szL]
    omega
theorem remF_at (w : World) (M : Mc) (f : Fr) (h : f.nx < f.t.kids.length) : remF w M f = wtOf M (kidAddr w f.x f.nx) f.t.kids[f.nx] + remL w M f.x (f.nx + 1) (f.t.kids.drop (f.nx + 1)) := by
  unfold remF
  rw [List.drop_eq_getElem_cons h]
  rfl
theorem remP_snoc (w : World) (M : Mc) (l : List Fr) (f : Fr) : remP w M (l ++ [f]) = (l.map (remF w M)).sum + l.length + (remF w M f + 1) := by
  simp [remP]; omega

/-- a node is counted: it leaves the path -/
theorem TInv.pop {w : World} {S : Nat → Prop} {p : Tr → Bool} {M : Mc} {l : List Fr} {f : Fr} (h : TInv w S p M (l ++ [f])) (hf : f.nx = f.t.kids.length) :
    TInv w S p (pput M f.x (.int .i64 (f.sm : Int))) l ∧ f.sm = cntT p f.t ∧ remP w (pput M f.x (.int .i64 (f.sm : Int))) l < remP w M (l ++ [f]) := by
  obtain ⟨h1, h2, h3⟩ := h
  obtain ⟨f1, -, f3⟩ := h1 f (by simp)
  have hsm : f.sm = cntT p f.t := by rw [f3, cntT_eq, hf, List.take_length]
  refine ⟨⟨fun g hg => h1 g (by simp [hg]), h2.init.1, fun k v hk => ?_⟩, hsm, ?_⟩
  · by_cases e : k = f.x
    · subst e
      rw [pput_same] at hk
      cases hk
      exact ⟨f.t, f1, Or.inl (by rw [hsm])⟩
    · rw [pput_other _ _ e] at hk
      obtain ⟨t, ht, hv⟩ := h3 k v hk
      refine ⟨t, ht, hv.imp id fun ⟨e1, g, hg, hgx⟩ => ⟨e1, g, ?_, hgx⟩⟩
      rw [List.mem_append] at hg
      rcases hg with hg | hg
      · exact hg
      · rw [List.mem_singleton] at hg; subst hg; exact absurd hgx.symm e
  · rw [remP_snoc]
    have := remP_put w M f.x (.int .i64 (f.sm : Int)) l
    unfold remP
    omega
/-- an operand that is counted already -/
theorem TInv.found {w : World} {S : Nat → Prop} {p : Tr → Bool} {M : Mc} {l : List Fr} {f : Fr} (h : TInv w S p M (l ++ [f])) (hf : f.nx < f.t.kids.length) {v : Value} (hv : M (kidAddr w f.x f.nx) = some v) :
    v = .int .i64 (cntT p f.t.kids[f.nx] : Int) ∧ TInv w S p M (l ++ [⟨f.x, f.t, f.nx + 1, f.sm + cntT p f.t.kids[f.nx]⟩]) ∧ remP w M (l ++ [⟨f.x, f.t, f.nx + 1, f.sm + cntT p f.t.kids[f.nx]⟩]) < remP w M (l ++ [f]) := by
  obtain ⟨h1, h2, h3⟩ := h
  obtain ⟨f1, f2, f3⟩ := h1 f (by simp)
  obtain ⟨n1, n2⟩ := h2.init
  obtain ⟨z, hz, hl⟩ := f1.kid f.nx hf
  have hza := hz.addr
  have hlt := szT_lt_szL f.t.kids f.nx hf
  rw [← szT_eq] at hlt
  refine ⟨?_, ⟨fun g hg => ?_, ?_, fun k u hk => ?_⟩, ?_⟩
  · obtain ⟨t, ht, hv'⟩ := h3 _ v hv
    rw [hza] at ht hv'
    have := ht.uniq hl
    subst this
    rcases hv' with hv' | ⟨-, g, hg, hgx⟩
    · exact hv'
    · exfalso
      have hg1 := (h1 g hg).1
      rw [hgx] at hg1
      have he := hg1.uniq hl
      rw [List.mem_append] at hg
      rcases hg with hg | hg
      · have := n2 g hg; rw [he] at this; omega
      · rw [List.mem_singleton] at hg; subst hg; have := congrArg szT he; omega
  · rw [List.mem_append] at hg
    rcases hg with hg | hg
    · exact h1 g (by simp [hg])
    · rw [List.mem_singleton] at hg
      subst hg
      refine ⟨f1, hf, ?_⟩
      show f.sm + _ = _
      rw [f3, cntL_take_succ p _ _ hf, Nat.add_assoc]
  · exact Nest.snoc n1 n2
  · obtain ⟨t, ht, hv'⟩ := h3 k u hk
    refine ⟨t, ht, hv'.imp id fun ⟨e1, g, hg, hgx⟩ => ⟨e1, ?_⟩⟩
    rw [List.mem_append] at hg
    rcases hg with hg | hg
    · exact ⟨g, by simp [hg], hgx⟩
    · rw [List.mem_singleton] at hg; subst hg; exact ⟨_, List.mem_append_right _ (List.mem_singleton.2 rfl), hgx⟩
  · rw [remP_snoc, remP_snoc, remF_at w M f hf]
    have : wtOf M (kidAddr w f.x f.nx) f.t.kids[f.nx] = 1 := by unfold wtOf; rw [hv]; rfl
    rw [this]
    show _ + _ + (remL w M f.x (f.nx + 1) (f.t.kids.drop (f.nx + 1)) + 1) < _
    omega
/-- an operand that is new: it goes onto the path -/
theorem TInv.push {w : World} {S : Nat → Prop} {p : Tr → Bool} {M : Mc} {l : List Fr} {f : Fr} (h : TInv w S p M (l ++ [f])) (hf : f.nx < f.t.kids.length) (hv : M (kidAddr w f.x f.nx) = none) :
    TInv w S p (pput M (kidAddr w f.x f.nx) (.int .i64 (-1))) (l ++ [f] ++ [⟨kidAddr w f.x f.nx, f.t.kids[f.nx], 0, if p f.t.kids[f.nx] then 1 else 0⟩]) ∧
      remP w (pput M (kidAddr w f.x f.nx) (.int .i64 (-1))) (l ++ [f] ++ [⟨kidAddr w f.x f.nx, f.t.kids[f.nx], 0, if p f.t.kids[f.nx] then 1 else 0⟩]) < remP w M (l ++ [f]) := by
  obtain ⟨h1, h2, h3⟩ := h
  obtain ⟨f1, f2, f3⟩ := h1 f (by simp)
  obtain ⟨n1, n2⟩ := h2.init
  obtain ⟨z, hz, hl⟩ := f1.kid f.nx hf
  have hza := hz.addr
  have hlt := szT_lt_szL f.t.kids f.nx hf
  rw [← szT_eq] at hlt
  refine ⟨⟨fun g hg => ?_, ?_, fun k u hk => ?_⟩, ?_⟩
  · rw [List.mem_append] at hg
    rcases hg with hg | hg
    · exact h1 g hg
    · rw [List.mem_singleton] at hg
      subst hg
      exact ⟨by rw [hza]; exact hl, Nat.zero_le _, by simp [cntL]⟩
  · refine Nest.snoc h2 fun g hg => ?_
    rw [List.mem_append] at hg
    rcases hg with hg | hg
    · have := n2 g hg
      show szT f.t.kids[f.nx] < _
      omega
    · rw [List.mem_singleton] at hg; subst hg; exact hlt
  · by_cases e : k = kidAddr w f.x f.nx
    · subst e
      rw [pput_same] at hk
      cases hk
      exact ⟨_, by rw [hza]; exact hl, Or.inr ⟨rfl, _, List.mem_append_right _ (List.mem_singleton.2 rfl), rfl⟩⟩
    · rw [pput_other _ _ e] at hk
      obtain ⟨t, ht, hv'⟩ := h3 k u hk
      exact ⟨t, ht, hv'.imp id fun ⟨e1, g, hg, hgx⟩ => ⟨e1, g, List.mem_append_left _ hg, hgx⟩⟩
  · rw [remP_snoc, remP_snoc, List.map_append, List.sum_append]
    have a1 := remP_put w M (kidAddr w f.x f.nx) (.int .i64 (-1)) l
    have a2 := remF_at w M f hf
    have a3 := remF_at w (pput M (kidAddr w f.x f.nx) (.int .i64 (-1))) f hf
    have a4 := remL_put w M (kidAddr w f.x f.nx) f.x (.int .i64 (-1)) (f.t.kids.drop (f.nx + 1)) (f.nx + 1)
    have b1 : wtOf M (kidAddr w f.x f.nx) f.t.kids[f.nx] = 3 * (1 + szT f.t.kids[f.nx]) := by unfold wtOf; rw [hv]; simp
    have b2 : wtOf (pput M (kidAddr w f.x f.nx) (.int .i64 (-1))) (kidAddr w f.x f.nx) f.t.kids[f.nx] = 1 := by unfold wtOf; rw [pput_same]; rfl
    have a5 : remF w (pput M (kidAddr w f.x f.nx) (.int .i64 (-1))) ⟨kidAddr w f.x f.nx, f.t.kids[f.nx], 0, if p f.t.kids[f.nx] then 1 else 0⟩ ≤ 3 * szT f.t.kids[f.nx] := by
      have := remL_le w (pput M (kidAddr w f.x f.nx) (.int .i64 (-1))) (kidAddr w f.x f.nx) (f.t.kids[f.nx]).kids 0
      rw [← szT_eq] at this
      simpa [remF] using this
    rw [b1] at a2
    rw [b2] at a3
    simp only [List.map_cons, List.map_nil, List.sum_cons, List.sum_nil, List.length_append, List.length_cons, List.length_nil]
    omega
theorem TInv.start {w : World} {S : Nat → Prop} {x : Addr} {t : Tr} (h : LiesAt w S x t) (p : Tr → Bool) : TInv w S p (fun _ => none) [⟨x, t, 0, if p t then 1 else 0⟩] := by
  refine ⟨fun f hf => ?_, by simp [Nest], fun k v hk => by simp at hk⟩
  rw [List.mem_singleton] at hf
  subst hf
  exact ⟨h, Nat.zero_le _, by simp [cntL]⟩
/-- how long the path is, how great a sum -/
theorem Nest.len : ∀ {l : List Fr} {n : Nat}, Nest l → (∀ f ∈ l, szT f.t < n) → l.length ≤ n
  | [], n, _, _ => by simp
  | f :: l, n, h, hb => by
    have h1 := hb f (by simp)
    have := Nest.len h.2 h.1
    simp only [List.length_cons]
    omega
/-- the first node -/
def HeadIs (a : Tr) (l : List Fr) : Prop := ∃ g r, l = g :: r ∧ g.t = a
theorem HeadIs.le {a : Tr} {l : List Fr} (h : HeadIs a l) (hn : Nest l) : (∀ f ∈ l, szT f.t ≤ szT a) ∧ l.length ≤ szT a + 1 := by
  obtain ⟨g, r, rfl, rfl⟩ := h
  refine ⟨fun f hf => ?_, ?_⟩
  · rw [List.mem_cons] at hf
    rcases hf with rfl | hf
    · exact Nat.le_refl _
    · exact Nat.le_of_lt (hn.1 f hf)
  · have := Nest.len hn.2 hn.1
    simp only [List.length_cons]
    omega
theorem HeadIs.snoc {a : Tr} {l : List Fr} (h : HeadIs a l) (f : Fr) : HeadIs a (l ++ [f]) := by
  obtain ⟨g, r, rfl, h⟩ := h
  exact ⟨g, r ++ [f], by simp, h⟩
theorem HeadIs.init {a : Tr} {l : List Fr} {f : Fr} (h : HeadIs a (l ++ [f])) (hl : l ≠ []) : HeadIs a l := by
  obtain ⟨g, r, e, h⟩ := h
  cases l with
  | nil => exact absurd rfl hl
  | cons d l =>
    simp only [List.cons_append, List.cons.injEq] at e
    exact ⟨d, l, rfl, by rw [e.1]; exact h⟩
theorem HeadIs.last {a : Tr} {l : List Fr} {f f' : Fr} (h : HeadIs a (l ++ [f])) (ht : f'.t = f.t) : HeadIs a (l ++ [f']) := by
  obtain ⟨g, r, e, h⟩ := h
  cases l with
  | nil =>
    simp only [List.nil_append, List.cons.injEq] at e
    exact ⟨f', [], rfl, by rw [ht, e.1]; exact h⟩
  | cons d l =>
    simp only [List.cons_append, List.cons.injEq] at e
    exact ⟨d, l ++ [f'], by simp, by rw [e.1]; exact h⟩
theorem HeadIs.one {a : Tr} {f : Fr} (h : HeadIs a ([] ++ [f])) : f.t = a := by
  obtain ⟨g, r, e, h⟩ := h
  simp only [List.nil_append, List.cons.injEq] at e
  rw [e.1]; exact h
/-- a place in a later world -/
theorem LiesAt.carry {w w' : World} {x : Addr} {t : Tr} (h : LiesAt w (Pl w) x t) (hb : Below w.heap.size w w') : LiesAt w' (Lt w'.heap.size) x t := by
  obtain ⟨bl, off, a, b, c, rfl, hp, h0, h1, h2, ht⟩ := h
  exact ⟨bl, off, a, b, c, rfl, Nat.lt_of_lt_of_le hp.1 hb.size, (hb.cell (p := ⟨bl, off, none⟩) hp.1).trans h0, (hb.cell (p := ⟨bl, off + 1, none⟩) hp.1).trans h1, (hb.cell (p := ⟨bl, off + 2, none⟩) hp.1).trans h2,
    ht.mono (fun k hk => Nat.lt_of_lt_of_le hk.1 hb.size) (fun k hk => hb.block k hk.1)⟩
/-- nodes, as cells -/
def frCells (l : List Fr) : List Value := l.flatMap fun f => [.pointer (some f.x), .int .i64 (f.nx : Int), .int .i64 (f.sm : Int)]
theorem frCells_length (l : List Fr) : (frCells l).length = l.length * 3 := by
  induction l with
  | nil => rfl
  | cons d l ih =>
    show ([_, _, _] ++ frCells l).length = _
    rw [List.length_append, ih]
    simp
    omega
theorem frCells_snoc (l : List Fr) (f : Fr) : frCells (l ++ [f]) = frCells l ++ [.pointer (some f.x), .int .i64 (f.nx : Int), .int .i64 (f.sm : Int)] := by simp [frCells]
theorem frCells_one (l : List Fr) : ∀ u ∈ frCells l, u.oneCell' = true := by
  intro u hu
  simp only [frCells, List.mem_flatMap] at hu
  obtain ⟨d, -, hu⟩ := hu
  simp only [List.mem_cons, List.not_mem_nil, or_false] at hu
  rcases hu with rfl | rfl | rfl <;> rfl
theorem frCells_top (l : List Fr) (f : Fr) : (frCells (l ++ [f]))[l.length * 3]? = some (.pointer (some f.x)) ∧ (frCells (l ++ [f]))[l.length * 3 + 1]? = some (.int .i64 (f.nx : Int)) ∧ (frCells (l ++ [f]))[l.length * 3 + 2]? = some (.int .i64 (f.sm : Int)) := by
  rw [frCells_snoc, ← frCells_length]
  refine ⟨?_, ?_, ?_⟩
  · rw [List.getElem?_append_right (by omega)]; simp
  · rw [List.getElem?_append_right (by omega)]; simp
  · rw [List.getElem?_append_right (by omega)]; simp
theorem frCells_set (l : List Fr) (f : Fr) (n s : Nat) : ((frCells (l ++ [f])).set (l.length * 3 + 2) (.int .i64 (s : Int))).set (l.length * 3 + 1) (.int .i64 (n : Int)) = frCells (l ++ [⟨f.x, f.t, n, s⟩]) := by
  rw [frCells_snoc, frCells_snoc, ← frCells_length]
  rw [List.set_append_right _ _ (by omega), List.set_append_right _ _ (by omega)]
  simp
end Go.Proofs.Ytjdlfpdljmohiaa
/-
  REPLACING VARIABLES, plainly: the tree, its size, its variables. No program is named here.
-/
namespace Go.Proofs.Ytjdlfpdljmohiaa
set_option linter.unusedVariables false
set_option linter.unusedSimpArgs false
open Go.RowKit

mutual
/-- a tree with its variables replaced -/
def sbT (args : List Tr) : Tr → Tr
  | .node o n ks => if o = 1 then args.getD n.toNat default else .node o n (sbL args ks)
def sbL (args : List Tr) : List Tr → List Tr
  | [] => []
  | t :: ts => sbT args t :: sbL args ts
end
theorem sbT_eq (args : List Tr) (t : Tr) : sbT args t = if t.op = 1 then args.getD t.num.toNat default else .node t.op t.num (sbL args t.kids) := by cases t; simp [sbT]
theorem sbL_map (args : List Tr) : ∀ l : List Tr, sbL args l = l.map (sbT args)
  | [] => by simp [sbL]
  | t :: ts => by rw [sbL, sbL_map args ts]; rfl

/-- every node's variable has a place among so many -/
def VarOk (n : Nat) (t : Tr) : Prop := t.op = 1 → 0 ≤ t.num ∧ t.num < n ∧ t.kids = []
mutual
def AllT (P : Tr → Prop) : Tr → Prop
  | .node o n ks => P (.node o n ks) ∧ AllL P ks
def AllL (P : Tr → Prop) : List Tr → Prop
  | [] => True
  | t :: ts => AllT P t ∧ AllL P ts
end
theorem allT_iff (P : Tr → Prop) (t : Tr) : AllT P t ↔ P t ∧ AllL P t.kids := by cases t; simp [AllT]
theorem allL_iff (P : Tr → Prop) : ∀ l : List Tr, AllL P l ↔ ∀ t ∈ l, AllT P t
  | [] => by simp [AllL]
  | t :: ts => by simp [AllL, allL_iff P ts]
theorem AllT.kid {P : Tr → Prop} {t : Tr} (h : AllT P t) (i : Nat) (hi : i < t.kids.length) : AllT P t.kids[i] := (allL_iff P _).1 ((allT_iff P t).1 h).2 _ (List.getElem_mem hi)
theorem allT_true (P : Tr → Prop) (hP : ∀ t, P t) : ∀ (n : Nat) (t : Tr), szT t ≤ n → AllT P t := by
  intro n
  induction n with
  | zero =>
    intro t h
    refine (allT_iff P t).2 ⟨hP t, (allL_iff P _).2 fun k hk => ?_⟩
    obtain ⟨i, hi, rfl⟩ := List.getElem_of_mem hk
    exact absurd (szT_lt_szL t.kids i hi) (by rw [szT_eq] at h; omega)
  | succ n ih =>
    intro t h
    refine (allT_iff P t).2 ⟨hP t, (allL_iff P _).2 fun k hk => ?_⟩
    obtain ⟨i, hi, rfl⟩ := List.getElem_of_mem hk
    exact ih _ (by have := szT_lt_szL t.kids i hi; rw [szT_eq] at h; omega)
/-- what a well-formed tree's variables are -/
theorem varOk_of_sh (vars : Nat) (defs : Int) : ∀ (d : Nat) (t : Tr), shB vars defs d t = true → AllT (VarOk vars) t
  | 0, t, h => by simp [shB] at h
  | d + 1, t, h => by
    unfold shB at h
    simp only [Bool.and_eq_true, decide_eq_true_eq, List.all_eq_true] at h
    obtain ⟨⟨h1, h2⟩, h3⟩ := h
    refine (allT_iff _ t).2 ⟨fun ho => ?_, (allL_iff _ _).2 fun k hk => varOk_of_sh vars defs d k (h3 k hk)⟩
    unfold ownB at h2
    rw [if_pos ho] at h2
    simp only [decide_eq_true_eq] at h2
    unfold arity at h1
    rw [if_pos (Or.inl ho)] at h1
    exact ⟨h2.1, h2.2, List.eq_nil_of_length_eq_zero (by omega)⟩

/-- is a node the variable i? -/
def isVar (i : Nat) (t : Tr) : Bool := t.op == 1 && t.num == (i : Int)
/-- what the arguments add, so often -/
def gain (args : List Tr) (u : Nat → Nat) : Nat := ((List.range args.length).map fun i => u i * szT (args.getD i default)).sum
theorem sum_map_add (l : List Nat) (f g : Nat → Nat) : (l.map fun i => f i + g i).sum = (l.map f).sum + (l.map g).sum := by
  induction l with
  | nil => rfl
  | cons a l ih => simp only [List.map_cons, List.sum_cons, ih]; omega
theorem sum_map_zero (l : List Nat) : (l.map fun _ => 0).sum = 0 := by
  induction l with
  | nil => rfl
  | cons a l ih => simpa using ih
theorem gain_add (args : List Tr) (u v : Nat → Nat) : gain args (fun i => u i + v i) = gain args u + gain args v := by
  unfold gain
  rw [← sum_map_add]
  congr 1
  refine List.map_congr_left fun i _ => ?_
  rw [Nat.add_mul]
theorem gain_congr (args : List Tr) (u v : Nat → Nat) (h : ∀ i, i < args.length → u i = v i) : gain args u = gain args v := by
  unfold gain
  congr 1
  refine List.map_congr_left fun i hi => ?_
  rw [h i (List.mem_range.1 hi)]
theorem gain_zero (args : List Tr) : gain args (fun _ => 0) = 0 := by
  unfold gain
  rw [List.map_congr_left (g := fun _ => 0) (fun i _ => Nat.zero_mul _), sum_map_zero]
theorem sum_one (n j : Nat) (f : Nat → Nat) (h : j < n) : ((List.range n).map fun i => (if i = j then 1 else 0) * f i).sum = f j := by
  induction n with
  | zero => omega
  | succ n ih =>
    rw [List.range_succ, List.map_append, List.sum_append]
    simp only [List.map_cons, List.map_nil, List.sum_cons, List.sum_nil, Nat.add_zero]
    by_cases hj : j = n
    · subst hj
      have : ((List.range j).map fun i => (if i = j then 1 else 0) * f i).sum = 0 := by
        rw [List.map_congr_left (g := fun _ => 0) (fun i hi => ?_), sum_map_zero]
        have := List.mem_range.1 hi
        rw [if_neg (by omega), Nat.zero_mul]
      rw [this, if_pos rfl]
      omega
    · rw [ih (by omega), if_neg (fun e => hj e.symm)]
      omega
theorem gain_one (args : List Tr) (j : Nat) (h : j < args.length) : gain args (fun i => if i = j then 1 else 0) = szT (args.getD j default) := by
  unfold gain
  exact sum_one args.length j (fun i => szT (args.getD i default)) h

mutual
/-- the size of the result -/
theorem sz_sbT (args : List Tr) : ∀ t : Tr, AllT (VarOk args.length) t → szT (sbT args t) = szT t + gain args (fun i => cntT (isVar i) t)
  | .node o n ks, h => by
    obtain ⟨h1, h2⟩ := (allT_iff _ _).1 h
    by_cases ho : o = 1
    · obtain ⟨g1, g2, g3⟩ := h1 ho
      simp only [Tr.num_node, Tr.kids_node] at g1 g2 g3
      subst ho
      subst g3
      have hj : n.toNat < args.length := by omega
      simp only [sbT, if_true, szT, szL, Nat.zero_add]
      rw [← gain_one args n.toNat hj]
      refine gain_congr args _ _ fun i hi => ?_
      simp only [cntT, cntL, Nat.add_zero, isVar, Tr.op_node, Tr.num_node]
      by_cases hin : i = n.toNat
      · obtain rfl : n = (i : Int) := by omega
        simp
      · have : ¬ n = (i : Int) := by omega
        simp [hin, this]
    · have hk := sz_sbL args ks h2
      simp only [sbT, if_neg ho, szT, hk]
      congr 1
      refine gain_congr args _ _ fun i hi => ?_
      simp [cntT, isVar, ho]
theorem sz_sbL (args : List Tr) : ∀ l : List Tr, AllL (VarOk args.length) l → szL (sbL args l) = szL l + gain args (fun i => cntL (isVar i) l)
  | [], _ => by
    simp only [sbL, szL, cntL, Nat.zero_add]
    exact (gain_zero args).symm
  | t :: ts, h => by
    simp only [AllL] at h
    have h1 := sz_sbT args t h.1
    have h2 := sz_sbL args ts h.2
    simp only [sbL, szL, h1, h2]
    rw [show (fun i => cntL (isVar i) (t :: ts)) = fun i => cntT (isVar i) t + cntL (isVar i) ts from rfl, gain_add]
    omega
end
end Go.Proofs.Ytjdlfpdljmohiaa
/-
  WHAT AddExpr AND BuildGraph HAND BACK.
-/
namespace Go.Proofs.Ytjdlfpdljmohiaa
set_option linter.unusedVariables false
set_option linter.unusedSimpArgs false
open Go.RowKit

/-- the graph with the expression's cells, the expression's cell, and whether there is one -/
def addOut (g : List Ce) (t : Tr) (xs : List Int) (defs : Int) : List Ce × Nat × Bool :=
  if graphB g defs = true ∧ validB t xs.length defs = true ∧ xs.all (isAt g.length) = true ∧ (addT (xs.map Int.toNat) t g).1.length ≤ 400 then ((addT (xs.map Int.toNat) t g).1, (addT (xs.map Int.toNat) t g).2, true) else ([], 0, false)
theorem addOut_yes {g : List Ce} {t : Tr} {xs : List Int} {defs : Int} (h1 : graphB g defs = true) (h2 : validB t xs.length defs = true) (h3 : xs.all (isAt g.length) = true) (h4 : (addT (xs.map Int.toNat) t g).1.length ≤ 400) : addOut g t xs defs = ((addT (xs.map Int.toNat) t g).1, (addT (xs.map Int.toNat) t g).2, true) := by
  unfold addOut; rw [if_pos ⟨h1, h2, h3, h4⟩]
theorem addOut_no {g : List Ce} {t : Tr} {xs : List Int} {defs : Int} (h : ¬ (graphB g defs = true ∧ validB t xs.length defs = true ∧ xs.all (isAt g.length) = true ∧ (addT (xs.map Int.toNat) t g).1.length ≤ 400)) : addOut g t xs defs = ([], 0, false) := by
  unfold addOut; rw [if_neg h]
/-- a closed expression fits an empty graph -/
theorem addOut_closed (t : Tr) (defs : Int) : addOut [] t [] defs = if validB t 0 defs = true then ((addT [] t []).1, (addT [] t []).2, true) else ([], 0, false) := by
  by_cases h : validB t 0 defs = true
  · rw [if_pos h]
    have h' := h
    unfold validB at h'
    simp only [Bool.and_eq_true, decide_eq_true_eq] at h'
    have hs := (addT_size [] t []).2.1
    refine addOut_yes ?_ h (by simp) (by simp only [List.map_nil, List.length_nil] at *; omega)
    unfold graphB
    simp
    omega
  · rw [if_neg h]
    exact addOut_no fun hh => h hh.2.1
/-- an answer: the row of cells and the operands' rows are new -/
def AddOut (o : List Ce × Nat × Bool) (w : World) (e : Ending) (w' : World) : Prop :=
  ∃ v, e = .returned (.tuple #[v, .int .i64 (o.2.1 : Int), .bool o.2.2]) ∧ OwnC w' w.heap.size (fun b => w.heap.size ≤ b) o.1 v ∧ Below w.heap.size w w'
theorem OwnC.zero {w : World} {lo b : Nat} {S : Nat → Prop} (h : w.heap[b]? = some (.cells #[] 35)) (hb : lo ≤ b) : OwnC w lo S [] (.slice (some ⟨b, 0, none⟩) 0 0) :=
  ⟨fun i h => absurd h (by simp), [], fun _ => 0, ⟨rfl, Or.inr ⟨b, 0, #[], rfl, hb, h, Nat.le_refl _, by simp [maxLen], rfl, rfl⟩⟩, fun j hj => absurd hj (by simp), fun i j hi _ => absurd hi (by simp)⟩
/-- the cells that stand for the variables -/
theorem args_back {xs : List Int} {n : Nat} (h : xs.all (isAt n) = true) : xs = (xs.map Int.toNat).map fun (a : Nat) => (a : Int) := by
  rw [List.map_map]
  refine List.ext_getElem (by simp) fun i h1 h2 => ?_
  have h3 := List.all_eq_true.1 h _ (List.getElem_mem h1)
  unfold isAt at h3
  simp at h3 ⊢
  omega
end Go.Proofs.Ytjdlfpdljmohiaa
/-
  TREES WHOSE BLOCKS ARE ALL DISTINCT: a footprint, the list of the blocks of a tree's rows; what a write into them leaves.
-/
namespace Go.Proofs.Ytjdlfpdljmohiaa
set_option linter.unusedVariables false
set_option linter.unusedSimpArgs false
open Go.RowKit

mutual
/-- the three cells of a tree, its rows in the blocks fp -/
def TrFp (w : World) (T : TypeId) : Tr → List Nat → Value → Value → Value → Prop
  | .node op n ks, fp, a, b, c => a = .int .i64 op ∧ b = .int .i64 n ∧ I64 op ∧ I64 n ∧
      ∃ ad cap, c = .slice ad ks.length cap ∧ ks.length ≤ cap ∧ cap ≤ maxLen ∧
        ((ks = [] ∧ fp = []) ∨ ∃ bl off C fps, ad = some ⟨bl, off, none⟩ ∧ w.heap[bl]? = some (.cells C T) ∧ fp = bl :: fps.flatten ∧ RowFp w T bl off ks fps)
/-- the trees of a row, each with its own blocks -/
def RowFp (w : World) (T : TypeId) (bl off : Nat) : List Tr → List (List Nat) → Prop
  | [], fps => fps = []
  | t :: ts, fps => ∃ f fs, fps = f :: fs ∧ (∃ a b c, w.cell? ⟨bl, off, none⟩ = some a ∧ w.cell? ⟨bl, off + 1, none⟩ = some b ∧ w.cell? ⟨bl, off + 2, none⟩ = some c ∧ TrFp w T t f a b c) ∧ RowFp w T bl (off + 3) ts fs
end

/-- a slice value that holds these trees, in the blocks fp -/
def KidsFp (w : World) (T : TypeId) (ks : List Tr) (fp : List Nat) (c : Value) : Prop :=
  ∃ ad cap, c = .slice ad ks.length cap ∧ ks.length ≤ cap ∧ cap ≤ maxLen ∧
    ((ks = [] ∧ fp = []) ∨ ∃ bl off C fps, ad = some ⟨bl, off, none⟩ ∧ w.heap[bl]? = some (.cells C T) ∧ fp = bl :: fps.flatten ∧ RowFp w T bl off ks fps)

theorem trFp_iff {w : World} {T : TypeId} {t : Tr} {fp : List Nat} {a b c : Value} : TrFp w T t fp a b c ↔ a = .int .i64 t.op ∧ b = .int .i64 t.num ∧ I64 t.op ∧ I64 t.num ∧ KidsFp w T t.kids fp c := by
  cases t; simp [TrFp, KidsFp]

mutual
theorem TrFp.keep {w w' : World} {T : TypeId} : ∀ (t : Tr) (fp : List Nat) (a b c : Value), (∀ k ∈ fp, w'.heap[k]? = w.heap[k]?) → TrFp w T t fp a b c → TrFp w' T t fp a b c
  | .node op n ks, fp, a, b, c, hw, h => by
    simp only [TrFp] at h ⊢
    obtain ⟨h1, h2, h3, h4, ad, cap, e, l1, l2, h5⟩ := h
    refine ⟨h1, h2, h3, h4, ad, cap, e, l1, l2, ?_⟩
    rcases h5 with h5 | ⟨bl, off, C, fps, e, hb, rfl, r⟩
    · exact Or.inl h5
    · exact Or.inr ⟨bl, off, C, fps, e, (hw bl (by simp)).trans hb, rfl, RowFp.keep bl off ks fps (hw bl (by simp)) (fun f hf k hk => hw k (by simp only [List.mem_cons, List.mem_flatten]; exact Or.inr ⟨f, hf, hk⟩)) r⟩
theorem RowFp.keep {w w' : World} {T : TypeId} (bl off : Nat) : ∀ (ks : List Tr) (fps : List (List Nat)), w'.heap[bl]? = w.heap[bl]? → (∀ f ∈ fps, ∀ k ∈ f, w'.heap[k]? = w.heap[k]?) → RowFp w T bl off ks fps → RowFp w' T bl off ks fps
  | [], fps, _, _, h => by simpa [RowFp] using h
  | t :: ts, fps, hb, hw, h => by
    simp only [RowFp] at h ⊢
    obtain ⟨f, fs, rfl, ⟨a, b, c, ha, hbb, hc, ht⟩, hr⟩ := h
    refine ⟨f, fs, rfl, ⟨a, b, c, ?_, ?_, ?_, TrFp.keep t f a b c (hw f (by simp)) ht⟩, RowFp.keep bl (off + 3) ts fs hb (fun g hg => hw g (by simp [hg])) hr⟩
    · rw [World.cell?_of_block (w := w) hb]; exact ha
    · rw [World.cell?_of_block (w := w) hb]; exact hbb
    · rw [World.cell?_of_block (w := w) hb]; exact hc
end
theorem KidsFp.keep {w w' : World} {T : TypeId} {ks : List Tr} {fp : List Nat} {c : Value} (h : KidsFp w T ks fp c) (hw : ∀ k ∈ fp, w'.heap[k]? = w.heap[k]?) : KidsFp w' T ks fp c := by
  obtain ⟨ad, cap, e, l1, l2, h5⟩ := h
  refine ⟨ad, cap, e, l1, l2, ?_⟩
  rcases h5 with h5 | ⟨bl, off, C, fps, e, hb, rfl, r⟩
  · exact Or.inl h5
  · exact Or.inr ⟨bl, off, C, fps, e, (hw bl (by simp)).trans hb, rfl, RowFp.keep bl off ks fps (hw bl (by simp)) (fun f hf k hk => hw k (by simp only [List.mem_cons, List.mem_flatten]; exact Or.inr ⟨f, hf, hk⟩)) r⟩

/-- the blocks lie in the heap -/
theorem cellsOf_lt {w : World} {b : Nat} {o : Obj} (h : w.heap[b]? = some o) : b < w.heap.size := (Array.getElem?_eq_some_iff.1 h).1
mutual
theorem TrFp.on {w : World} {T : TypeId} {S : Nat → Prop} : ∀ (t : Tr) (fp : List Nat) (a b c : Value), (∀ k ∈ fp, S k) → TrFp w T t fp a b c → TrOn w S t a b c
  | .node op n ks, fp, a, b, c, hS, h => by
    simp only [TrFp] at h
    simp only [TrOn]
    obtain ⟨h1, h2, h3, h4, ad, cap, e, l1, l2, h5⟩ := h
    refine ⟨h1, h2, h3, h4, ad, cap, e, l1, l2, ?_⟩
    rcases h5 with ⟨h5, _⟩ | ⟨bl, off, C, fps, e, hb, rfl, r⟩
    · exact Or.inl h5
    · exact Or.inr ⟨bl, off, e, hS bl (by simp), RowFp.on bl off ks fps (fun f hf k hk => hS k (by simp only [List.mem_cons, List.mem_flatten]; exact Or.inr ⟨f, hf, hk⟩)) r⟩
theorem RowFp.on {w : World} {T : TypeId} {S : Nat → Prop} (bl off : Nat) : ∀ (ks : List Tr) (fps : List (List Nat)), (∀ f ∈ fps, ∀ k ∈ f, S k) → RowFp w T bl off ks fps → RowOn w S bl off ks
  | [], fps, _, h => by simp [RowOn]
  | t :: ts, fps, hS, h => by
    simp only [RowFp] at h
    simp only [RowOn]
    obtain ⟨f, fs, rfl, ⟨a, b, c, ha, hbb, hc, ht⟩, hr⟩ := h
    exact ⟨⟨a, b, c, ha, hbb, hc, TrFp.on t f a b c (hS f (by simp)) ht⟩, RowFp.on bl (off + 3) ts fs (fun g hg => hS g (by simp [hg])) hr⟩
end
theorem KidsFp.on {w : World} {T : TypeId} {S : Nat → Prop} {ks : List Tr} {fp : List Nat} {c : Value} (h : KidsFp w T ks fp c) (hS : ∀ k ∈ fp, S k) : KidsOn w S ks c := by
  obtain ⟨ad, cap, e, l1, l2, h5⟩ := h
  refine ⟨ad, cap, e, l1, l2, ?_⟩
  rcases h5 with ⟨h5, _⟩ | ⟨bl, off, C, fps, e, hb, rfl, r⟩
  · exact Or.inl h5
  · exact Or.inr ⟨bl, off, e, hS bl (by simp), RowFp.on bl off ks fps (fun f hf k hk => hS k (by simp only [List.mem_cons, List.mem_flatten]; exact Or.inr ⟨f, hf, hk⟩)) r⟩

/-- element i of a row -/
theorem RowFp.at {w : World} {T : TypeId} {bl : Nat} : ∀ (ks : List Tr) (fps : List (List Nat)) (off i : Nat) (hi : i < ks.length), RowFp w T bl off ks fps →
    fps.length = ks.length ∧ ∃ f, fps[i]? = some f ∧ ∃ a b c, w.cell? ⟨bl, off + i * 3, none⟩ = some a ∧ w.cell? ⟨bl, off + i * 3 + 1, none⟩ = some b ∧ w.cell? ⟨bl, off + i * 3 + 2, none⟩ = some c ∧ TrFp w T ks[i] f a b c
  | [], _, _, _, hi, _ => by simp at hi
  | t :: ts, fps, off, 0, _, h => by
    simp only [RowFp] at h
    obtain ⟨f, fs, rfl, h1, h2⟩ := h
    refine ⟨?_, f, rfl, by simpa using h1⟩
    cases ts with
    | nil => simp only [RowFp] at h2; simp [h2]
    | cons u us => simp [(RowFp.at (u :: us) fs (off + 3) 0 (by simp) h2).1]
  | t :: ts, fps, off, i + 1, hi, h => by
    simp only [RowFp] at h
    obtain ⟨f, fs, rfl, h1, h2⟩ := h
    have := RowFp.at ts fs (off + 3) i (by simpa using hi) h2
    have e : off + 3 + i * 3 = off + (i + 1) * 3 := by omega
    rw [e] at this
    exact ⟨by simp [this.1], by simpa using this.2⟩

/-- a row from its elements -/
theorem RowFp.of {w : World} {T : TypeId} {bl : Nat} : ∀ (ks : List Tr) (fps : List (List Nat)) (off : Nat), fps.length = ks.length →
    (∀ i (hi : i < ks.length), ∃ f, fps[i]? = some f ∧ ∃ a b c, w.cell? ⟨bl, off + i * 3, none⟩ = some a ∧ w.cell? ⟨bl, off + i * 3 + 1, none⟩ = some b ∧ w.cell? ⟨bl, off + i * 3 + 2, none⟩ = some c ∧ TrFp w T ks[i] f a b c) → RowFp w T bl off ks fps
  | [], fps, _, hl, _ => by simpa [RowFp] using hl
  | t :: ts, [], _, hl, _ => by simp at hl
  | t :: ts, f :: fs, off, hl, h => by
    simp only [RowFp]
    refine ⟨f, fs, rfl, ?_, RowFp.of ts fs (off + 3) (by simpa using hl) fun i hi => ?_⟩
    · obtain ⟨f', hf, a, b, c, h1⟩ := h 0 (by simp)
      simp only [List.getElem?_cons_zero, Option.some.injEq] at hf
      subst hf
      simp only [Nat.zero_mul, Nat.add_zero, List.getElem_cons_zero] at h1
      exact ⟨a, b, c, h1⟩
    · have := h (i + 1) (by simpa using hi)
      have e : off + (i + 1) * 3 = off + 3 + i * 3 := by omega
      rw [e] at this
      simpa using this

/-! ### Numbered trees -/
/-- the trees of a list with their numbers replaced, in order, from k on -/
def labL : List Tr → Int → List Tr
  | [], _ => []
  | .node _ _ ks :: ts, k => .node k (k + 1) (labL ks (k + 2)) :: labL ts (k + 2 + 2 * (szL ks : Int))
theorem labL_length : ∀ (ts : List Tr) (k : Int), (labL ts k).length = ts.length
  | [], _ => by simp [labL]
  | .node _ _ ks :: ts, k => by simp [labL, labL_length ts]
theorem labL_cons (t : Tr) (ts : List Tr) (k : Int) : labL (t :: ts) k = .node k (k + 1) (labL t.kids (k + 2)) :: labL ts (k + 2 + 2 * (szT t : Int)) := by
  cases t; simp [labL, szT]
theorem labL_append : ∀ (a b : List Tr) (k : Int), labL (a ++ b) k = labL a k ++ labL b (k + 2 * (szL a : Int))
  | [], b, k => by simp [labL, szL]
  | t :: a, b, k => by
    rw [List.cons_append, labL_cons, labL_cons, labL_append a b]
    simp only [List.cons_append, szL]
    congr 3
    push_cast
    omega
end Go.Proofs.Ytjdlfpdljmohiaa
/-
  THE NUMBERS THAT MARKED TREES BEAR, element by element.
-/
namespace Go.Proofs.Ytjdlfpdljmohiaa
set_option linter.unusedVariables false
set_option linter.unusedSimpArgs false
open Go.RowKit

/-- the number that stands at element i -/
def labAt (ks : List Tr) (k : Int) (i : Nat) : Int := k + 2 * (szL (ks.take i) : Int)
theorem labAt_zero (ks : List Tr) (k : Int) : labAt ks k 0 = k := by simp [labAt, szL]
theorem labAt_end (ks : List Tr) (k : Int) : labAt ks k ks.length = k + 2 * (szL ks : Int) := by simp [labAt]
theorem labAt_succ (ks : List Tr) (k : Int) (i : Nat) (hi : i < ks.length) : labAt ks k (i + 1) = labAt ks k i + 2 + 2 * (szL ks[i].kids : Int) := by
  unfold labAt
  rw [szL_take_succ ks i hi, szT_eq]
  push_cast
  omega
theorem labAt_le (ks : List Tr) (k : Int) (i : Nat) : k ≤ labAt ks k i ∧ labAt ks k i ≤ k + 2 * (szL ks : Int) := by
  have := szL_take_le ks i
  unfold labAt
  omega
theorem labL_get : ∀ (ks : List Tr) (k : Int) (i : Nat) (hi : i < ks.length) (hj : i < (labL ks k).length), (labL ks k)[i] = .node (labAt ks k i) (labAt ks k i + 1) (labL ks[i].kids (labAt ks k i + 2))
  | [], _, _, hi, _ => by simp at hi
  | t :: ts, k, 0, _, _ => by simp [labL_cons, labAt_zero]
  | t :: ts, k, i + 1, hi, hj => by
    have := labL_get ts (k + 2 + 2 * (szT t : Int)) i (by simpa using hi) (by rw [labL_length]; simpa using hi)
    simp only [labL_cons, List.getElem_cons_succ, this]
    have e : labAt ts (k + 2 + 2 * (szT t : Int)) i = labAt (t :: ts) k (i + 1) := by
      unfold labAt
      simp only [List.take_succ_cons, szL]
      push_cast
      omega
    rw [e]

end Go.Proofs.Ytjdlfpdljmohiaa
