/-
  THE MODEL's l1Binary, OF WHAT l1Parse DOES.
-/
import Derived.Test.YtjdlfpdljmohiaaMb3
namespace Go.Proofs.Ytjdlfpdljmohiaa
set_option linter.unusedVariables false
set_option linter.unusedSimpArgs false
open Go.RowKit

theorem kids1 {W W' : World} {S S' : Nat → Prop} {x : Tr} {a b c : Value} {g : Nat} (hx : TrOn W S x a b c) (hc : W'.heap[g]? = some (.cells #[a, b, c] 30)) (hS : ∀ k, S k → S' k) (hk : ∀ k, S k → W'.heap[k]? = W.heap[k]?) (hg : S' g) : KidsOn W' S' [x] (.slice (some ⟨g, 0, none⟩) 1 1) :=
  ⟨_, 1, rfl, Nat.le_refl _, by unfold maxLen; decide, Or.inr ⟨g, 0, rfl, hg, ⟨⟨a, b, c, cell_of_blk hc 0 _ rfl, cell_of_blk hc 1 _ rfl, cell_of_blk hc 2 _ rfl, hx.mono hS hk⟩, trivial⟩⟩⟩
theorem kids2 {W W' : World} {S S' : Nat → Prop} {x y : Tr} {a b c a2 b2 c2 : Value} {g : Nat} (hx : TrOn W S x a b c) (hy : TrOn W S y a2 b2 c2) (hc : W'.heap[g]? = some (.cells #[a, b, c, a2, b2, c2] 30)) (hS : ∀ k, S k → S' k) (hk : ∀ k, S k → W'.heap[k]? = W.heap[k]?) (hg : S' g) : KidsOn W' S' [x, y] (.slice (some ⟨g, 0, none⟩) 2 2) :=
  ⟨_, 2, rfl, Nat.le_refl _, by unfold maxLen; decide, Or.inr ⟨g, 0, rfl, hg, ⟨⟨a, b, c, cell_of_blk hc 0 _ rfl, cell_of_blk hc 1 _ rfl, cell_of_blk hc 2 _ rfl, hx.mono hS hk⟩, ⟨⟨a2, b2, c2, cell_of_blk hc 3 _ rfl, cell_of_blk hc 4 _ rfl, cell_of_blk hc 5 _ rfl, hy.mono hS hk⟩, trivial⟩⟩⟩⟩
theorem PaRes.nil {r : Tr × Int} {w w' : World} (h : r = (nilT, -1)) (hb : Below w.heap.size w w') : PaRes r w (.returned (.tuple #[.agg #[.int .i64 0, .int .i64 0, .slice none 0 0], .int .i64 (-1)])) w' := by
  subst h
  exact ⟨_, rfl, ⟨none, 0, rfl, Nat.le_refl _, by simp [maxLen], Or.inl rfl⟩, hb⟩
/-- what a box of three cells behind a new block keeps -/
theorem set3_heap (W : World) (B : Nat) (a b c : Value) (k : Nat) (h : k ≠ B) : (((W.setCell ⟨B, 0, none⟩ a).setCell ⟨B, 1, none⟩ b).setCell ⟨B, 2, none⟩ c).heap[k]? = W.heap[k]? := by
  rw [Below.heap_setCell _ _ _ _ (by show k ≠ B; exact h), Below.heap_setCell _ _ _ _ (by show k ≠ B; exact h), Below.heap_setCell _ _ _ _ (by show k ≠ B; exact h)]
theorem set3_below {B : Nat} {w W : World} (h : Below B w W) (a b c : Value) : Below B w (((W.setCell ⟨B, 0, none⟩ a).setCell ⟨B, 1, none⟩ b).setCell ⟨B, 2, none⟩ c) :=
  ((h.setCell (Nat.le_refl _) _).setCell (Nat.le_refl _) _).setCell (Nat.le_refl _) _
theorem pa_two {w w1 w3 : World} {x y : Tr} {u n : Int} {kx ky : Value} {o : Obj} (h1 : Below w.heap.size w w1) (hs1 : w.heap.size + 1 ≤ w1.heap.size) (h3 : Below w1.heap.size w1 w3) (hs3 : w1.heap.size + 1 ≤ w3.heap.size)
    (hkx : KidsOn w1 (PN (w.heap.size + 1) w1) x.kids kx) (hix : I64 x.op ∧ I64 x.num) (hky : KidsOn w3 (PN (w1.heap.size + 1) w3) y.kids ky) (hiy : I64 y.op ∧ I64 y.num) :
    PaRes (.node u 0 [x, y], n) w (.returned (.tuple #[.agg #[.int .i64 u, .int .i64 0, .slice (some ⟨w3.heap.size + 1, 0, none⟩) 2 2], .int .i64 n]))
      (((((w3.alloc o).alloc (.cells #[.int .i64 x.op, .int .i64 x.num, kx, .int .i64 y.op, .int .i64 y.num, ky] 30)).setCell ⟨w.heap.size, 0, none⟩ (.int .i64 u)).setCell ⟨w.heap.size, 1, none⟩ (.int .i64 0)).setCell ⟨w.heap.size, 2, none⟩ (.slice (some ⟨w3.heap.size + 1, 0, none⟩) 2 2)) := by
  have hsA : (w3.alloc o).heap.size = w3.heap.size + 1 := by rw [Deep.nblk_alloc]
  have hb : Below w.heap.size w ((w3.alloc o).alloc (.cells #[.int .i64 x.op, .int .i64 x.num, kx, .int .i64 y.op, .int .i64 y.num, ky] 30)) :=
    (h1.trans (h3.mono (by omega))).trans (((box_below w3 o).trans ((box_below _ _).mono (by omega))).mono (by omega))
  have hF := set3_below hb (.int .i64 u) (.int .i64 0) (.slice (some ⟨w3.heap.size + 1, 0, none⟩) 2 2)
  have hsz : w3.heap.size + 2 ≤ (((((w3.alloc o).alloc (.cells #[.int .i64 x.op, .int .i64 x.num, kx, .int .i64 y.op, .int .i64 y.num, ky] 30)).setCell ⟨w.heap.size, 0, none⟩ (.int .i64 u)).setCell ⟨w.heap.size, 1, none⟩ (.int .i64 0)).setCell ⟨w.heap.size, 2, none⟩ (.slice (some ⟨w3.heap.size + 1, 0, none⟩) 2 2)).heap.size := by
    have := (set3_below (Below.refl w.heap.size ((w3.alloc o).alloc (.cells #[.int .i64 x.op, .int .i64 x.num, kx, .int .i64 y.op, .int .i64 y.num, ky] 30))) (.int .i64 u) (.int .i64 0) (.slice (some ⟨w3.heap.size + 1, 0, none⟩) 2 2)).size
    rw [Deep.nblk_alloc, Deep.nblk_alloc] at this
    omega
  have hrow : (((((w3.alloc o).alloc (.cells #[.int .i64 x.op, .int .i64 x.num, kx, .int .i64 y.op, .int .i64 y.num, ky] 30)).setCell ⟨w.heap.size, 0, none⟩ (.int .i64 u)).setCell ⟨w.heap.size, 1, none⟩ (.int .i64 0)).setCell ⟨w.heap.size, 2, none⟩ (.slice (some ⟨w3.heap.size + 1, 0, none⟩) 2 2)).heap[w3.heap.size + 1]? = some (.cells #[.int .i64 x.op, .int .i64 x.num, kx, .int .i64 y.op, .int .i64 y.num, ky] 30) := by
    rw [set3_heap _ _ _ _ _ _ (by omega), ← hsA]
    exact Deep.blk_alloc_new _ _
  have hblk : ∀ k, PN (w.heap.size + 1) w3 k → (((((w3.alloc o).alloc (.cells #[.int .i64 x.op, .int .i64 x.num, kx, .int .i64 y.op, .int .i64 y.num, ky] 30)).setCell ⟨w.heap.size, 0, none⟩ (.int .i64 u)).setCell ⟨w.heap.size, 1, none⟩ (.int .i64 0)).setCell ⟨w.heap.size, 2, none⟩ (.slice (some ⟨w3.heap.size + 1, 0, none⟩) 2 2)).heap[k]? = w3.heap[k]? := by
    intro k hk
    have h1 : w.heap.size + 1 ≤ k := hk.1
    have h2 : k < w3.heap.size := hk.2.1
    rw [set3_heap _ _ _ _ _ _ (by omega), Deep.blk_alloc_lt _ _ _ (by omega), Deep.blk_alloc_lt _ _ _ h2]
  refine ⟨_, rfl, kids2 (W := w3) (S := PN (w.heap.size + 1) w3) (a := .int .i64 x.op) (b := .int .i64 x.num) (c := kx) (a2 := .int .i64 y.op) (b2 := .int .i64 y.num) (c2 := ky) ?_ ?_ ?_ ?_ ?_ ?_, hF⟩
  · exact trOn_iff.2 ⟨rfl, rfl, hix.1, hix.2, hkx.mono (fun k hk => hk.go (Nat.le_refl _) (h3.block k hk.2.1)) fun k hk => h3.block k hk.2.1⟩
  · exact trOn_iff.2 ⟨rfl, rfl, hiy.1, hiy.2, hky.mono (fun k hk => hk.go (by omega) rfl) fun k hk => rfl⟩
  · exact hrow
  · exact fun k hk => hk.go (by omega) (hblk k hk)
  · exact hblk
  · exact ⟨by omega, by omega, _, _, hrow⟩

set_option maxRecDepth 100000 in
set_option maxHeartbeats 1600000 in
theorem l1Binary_calls (s : ByteArray) (d : Nat) (hs : s.size ≤ 1099511627776) (hP : PaSaid s d) (a0 : Int) (w : World) (h0 : -1 ≤ a0) (h1 : a0 ≤ s.size + 1) :
    Calls Try.prog 108 #[.string s, .int .i64 a0, .int .i64 (d : Int)] w (PaRes (binT (parseT s d) s a0) w) := by
  have HP := mkHid hP
  obtain ⟨r, hr⟩ : ∃ r, r = binT (parseT s d) s a0 := ⟨_, rfl⟩
  rw [← hr]
  have HR := mkHid hr
  have HRG := mkHid (parseT_rng s d a0)
  have HPA := mkHid fun W => HP.out a0 W h0 h1
  unfold binT at HR
  obtain ⟨q, hq⟩ : ∃ q, q = parseT s d a0 := ⟨_, rfl⟩
  rw [← hq] at HRG HR HPA
  obtain ⟨x, nx⟩ := q
  have HXI := mkHid HRG.out.i64
  have hnr : -1 ≤ nx ∧ nx ≤ s.size := HRG.out.1
  clear hP hr hq
  go_enter Try.func108, Try.ntmps108
  go_wp2_with fail
  refine (HPA.out _).mono ?_
  rintro e w1 ⟨kv, rfl, hkv, hb1⟩
  obtain ⟨adk, capk, rfl, -, -, -⟩ := id hkv
  have HKV := mkHid hkv
  have HB1 := mkHid hb1
  clear hkv hb1
  simp only [] at HR ⊢
  obtain ⟨o, ho⟩ : ∃ o, o = x.op := ⟨_, rfl⟩
  obtain ⟨m, hm⟩ : ∃ m, m = x.num := ⟨_, rfl⟩
  obtain ⟨z, hz⟩ : ∃ z, z = x.kids.length := ⟨_, rfl⟩
  rw [← ho, ← hm, ← hz]
  have HAT := mkHid fun (c : Nat) (h : c < 256) W => l1At_calls s nx c W h
  have HOM := mkHid (And.intro ho (And.intro hm hz))
  have HPB := mkHid fun (h : nx < s.size) W => HP.out (nx + 1) W (by omega) (by omega)
  have HRG2 := mkHid (parseT_rng s d (nx + 1))
  obtain ⟨q2, hq2⟩ : ∃ q2, q2 = parseT s d (nx + 1) := ⟨_, rfl⟩
  rw [← hq2] at HPB HR HRG2
  obtain ⟨y, ny⟩ := q2
  have HYI := mkHid HRG2.out.i64
  have hny : -1 ≤ ny ∧ ny ≤ s.size := HRG2.out.1
  have HAT2 := mkHid fun W => l1At_calls s ny 41 W (by decide)
  clear ho hm hz hq2
  have HT : Hid (∀ u : Int, u ≠ 0 → nx < s.size → opAtT s nx = u → nx < s.size ∧ r = if isAtB s ny 41 = true then (Tr.node u 0 [x, y], ny + 1) else (nilT, -1)) := by
    intro u h h1 h2
    refine ⟨h1, ?_⟩
    rw [HR.out, h2, if_neg h]
  have HO : Hid (opAtT s nx = if isAtB s nx 32 = true then 4 else if isAtB s nx 43 = true then 8 else if isAtB s nx 45 = true then 9 else 0) := rfl
  have hs1 : w.heap.size + 1 ≤ w1.heap.size := by have := HB1.out.size; rwa [Deep.nblk_alloc] at this
  have hbw1 : Below w.heap.size w w1 := (box_below _ _).trans (HB1.out.mono (by rw [Deep.nblk_alloc]; omega))
  have HBX : Hid (∀ W, Below w1.heap.size w1 W → W.heap[w.heap.size]? = some (.cells #[.int .i64 0, .int .i64 0, .slice none 0 0] 30)) := fun W hb => (hb.block _ (by omega)).trans ((HB1.out.block _ (by rw [Deep.nblk_alloc]; omega)).trans (Deep.blk_alloc_new _ _))
  have HBW1 := mkHid hbw1
  have HA1 : Hid (Below w1.heap.size w1 (w1.alloc (.cells #[.int .i64 o, .int .i64 m, .slice adk z capk] 30))) := box_below _ _
  have HD1 : Hid ((w1.alloc (.cells #[.int .i64 o, .int .i64 m, .slice adk z capk] 30)).heap[w1.heap.size]? = some (.cells #[.int .i64 o, .int .i64 m, .slice adk z capk] 30)) := Deep.blk_alloc_new _ _
  clear hbw1
  go_wp2_with fail
  refine ((HAT.out 32 (by decide)) _).mono ?_
  rintro e w2 ⟨rfl, hw2⟩
  rw [← hw2]
  clear hw2
  cases hA : isAtB s nx 32 with
  | true =>
    have HV := mkHid (HT.out 4 (by decide) (isAtB_rng hA).2 (by rw [HO.out, if_pos hA]))
    go_wp2_with fail
    refine (HPB.out HV.out.1 _).mono ?_
    rintro e w3 ⟨kv2, rfl, hkv2, hb3⟩
    obtain ⟨adl, capl, rfl, -, -, -⟩ := id hkv2
    have HKV2 := mkHid hkv2
    have HB3 := mkHid hb3
    obtain ⟨o2, ho2⟩ : ∃ o2, o2 = y.op := ⟨_, rfl⟩
    obtain ⟨m2, hm2⟩ : ∃ m2, m2 = y.num := ⟨_, rfl⟩
    obtain ⟨z2, hz2⟩ : ∃ z2, z2 = y.kids.length := ⟨_, rfl⟩
    simp only []
    rw [← ho2, ← hm2, ← hz2]
    have HOM2 := mkHid (And.intro ho2 (And.intro hm2 hz2))
    have hs3 : w1.heap.size + 1 ≤ w3.heap.size := by have := HB3.out.size; rwa [Deep.nblk_alloc] at this
    have HB13 : Hid (Below w1.heap.size w1 w3) := HA1.out.trans (hb3.mono (by rw [Deep.nblk_alloc]; omega))
    clear hkv2 hb3 ho2 hm2 hz2
    have HA3 : Hid (Below w3.heap.size w3 (w3.alloc (.cells #[.int .i64 o2, .int .i64 m2, .slice adl z2 capl] 30))) := box_below _ _
    have HBB : Hid (Below w1.heap.size w1 (w3.alloc (.cells #[.int .i64 o2, .int .i64 m2, .slice adl z2 capl] 30))) := HB13.out.trans (HA3.out.mono (by omega))
    have HD8 : Hid ((w3.alloc (.cells #[.int .i64 o2, .int .i64 m2, .slice adl z2 capl] 30)).heap[w1.heap.size]? = some (.cells #[.int .i64 o, .int .i64 m, .slice adk z capk] 30)) := (HA3.out.block _ (by omega)).trans ((HB3.out.block _ (by rw [Deep.nblk_alloc]; omega)).trans HD1.out)
    have HD11 : Hid ((w3.alloc (.cells #[.int .i64 o2, .int .i64 m2, .slice adl z2 capl] 30)).heap[w3.heap.size]? = some (.cells #[.int .i64 o2, .int .i64 m2, .slice adl z2 capl] 30)) := Deep.blk_alloc_new _ _
    have d0 := HBX.out _ HBB.out
    have q0 := cell_of_blk d0 0 _ rfl
    have q1 := cell_of_blk d0 1 _ rfl
    have q2 := cell_of_blk d0 2 _ rfl
    have qf := fun i => frz_of_blk d0 i
    have hsA : (w3.alloc (.cells #[.int .i64 o2, .int .i64 m2, .slice adl z2 capl] 30)).heap.size = w3.heap.size + 1 := by rw [Deep.nblk_alloc]
    have HQ : Hid (∀ O, ((w3.alloc (.cells #[.int .i64 o2, .int .i64 m2, .slice adl z2 capl] 30)).alloc O).heap[w.heap.size]? = some (.cells #[.int .i64 0, .int .i64 0, .slice none 0 0] 30)) := fun O => HBX.out _ (HBB.out.trans ((box_below _ O).mono (by rw [hsA]; omega)))
    have p0 := fun O => cell_of_blk (HQ.out O) 0 _ rfl
    have p1 := fun O => cell_of_blk (HQ.out O) 1 _ rfl
    have p2 := fun O => cell_of_blk (HQ.out O) 2 _ rfl
    have pf := fun O i => frz_of_blk (HQ.out O) i
    have a0' := cell_of_blk HD8.out 0 _ rfl
    have a1' := cell_of_blk HD8.out 1 _ rfl
    have a2' := cell_of_blk HD8.out 2 _ rfl
    have b0' := cell_of_blk HD11.out 0 _ rfl
    have b1' := cell_of_blk HD11.out 1 _ rfl
    have b2' := cell_of_blk HD11.out 2 _ rfl
    clear d0 hsA
    go_wp2_with fail
    refine (HAT2.out _).mono ?_
    rintro e w4 ⟨rfl, hw4⟩
    rw [← hw4]
    clear hw4
    cases hD : isAtB s ny 41 with
    | false =>
      have HN : Hid (r = (nilT, -1)) := by rw [Hid, HV.out.2, hD]; rfl
      go_wp2_with fail
      exact bodyPost_ret (v := .tuple #[.agg #[.int .i64 0, .int .i64 0, .slice none 0 0], .int .i64 (-1)]) (by simp [results, Try.results108, go_sem, q0, q1, q2]) rfl (PaRes.nil HN.out ((((HBW1.out.trans (HBB.out.mono (by omega))).setCell (Nat.le_refl _) _).setCell (Nat.le_refl _) _).setCell (Nat.le_refl _) _))
    | true =>
      have HN : Hid (r = (Tr.node 4 0 [x, y], ny + 1)) := by rw [Hid, HV.out.2, hD]; rfl
      have hny2 := isAtB_rng hD
      go_wp2_with fail
      obtain ⟨ho, hm, hz⟩ := HOM.out
      obtain ⟨ho2, hm2, hz2⟩ := HOM2.out
      refine bodyPost_ret (v := .tuple #[.agg #[.int .i64 4, .int .i64 0, .slice (some ⟨w3.heap.size + 1, 0, none⟩) 2 2], .int .i64 (ny + 1)]) (by simp [results, Try.results108, go_sem, p0, p1, p2]) rfl ?_
      rw [HN.out, ho, hm, ho2, hm2, hz, hz2]
      exact pa_two HBW1.out hs1 HB13.out hs3 (by have h := HKV.out; rwa [Deep.nblk_alloc] at h) HXI.out (by have h := HKV2.out; rwa [Deep.nblk_alloc] at h) HYI.out
  | false =>
    go_wp2_with fail
    refine ((HAT.out 43 (by decide)) _).mono ?_
    rintro e w2 ⟨rfl, hw2⟩
    rw [← hw2]
    clear hw2
    cases hB : isAtB s nx 43 with
    | true =>
      have HV := mkHid (HT.out 8 (by decide) (isAtB_rng hB).2 (by rw [HO.out, if_neg (by rw [hA]; decide), if_pos hB]))
      go_wp2_with fail
      refine (HPB.out HV.out.1 _).mono ?_
      rintro e w3 ⟨kv2, rfl, hkv2, hb3⟩
      obtain ⟨adl, capl, rfl, -, -, -⟩ := id hkv2
      have HKV2 := mkHid hkv2
      have HB3 := mkHid hb3
      obtain ⟨o2, ho2⟩ : ∃ o2, o2 = y.op := ⟨_, rfl⟩
      obtain ⟨m2, hm2⟩ : ∃ m2, m2 = y.num := ⟨_, rfl⟩
      obtain ⟨z2, hz2⟩ : ∃ z2, z2 = y.kids.length := ⟨_, rfl⟩
      simp only []
      rw [← ho2, ← hm2, ← hz2]
      have HOM2 := mkHid (And.intro ho2 (And.intro hm2 hz2))
      have hs3 : w1.heap.size + 1 ≤ w3.heap.size := by have := HB3.out.size; rwa [Deep.nblk_alloc] at this
      have HB13 : Hid (Below w1.heap.size w1 w3) := HA1.out.trans (hb3.mono (by rw [Deep.nblk_alloc]; omega))
      clear hkv2 hb3 ho2 hm2 hz2
      have HA3 : Hid (Below w3.heap.size w3 (w3.alloc (.cells #[.int .i64 o2, .int .i64 m2, .slice adl z2 capl] 30))) := box_below _ _
      have HBB : Hid (Below w1.heap.size w1 (w3.alloc (.cells #[.int .i64 o2, .int .i64 m2, .slice adl z2 capl] 30))) := HB13.out.trans (HA3.out.mono (by omega))
      have HD8 : Hid ((w3.alloc (.cells #[.int .i64 o2, .int .i64 m2, .slice adl z2 capl] 30)).heap[w1.heap.size]? = some (.cells #[.int .i64 o, .int .i64 m, .slice adk z capk] 30)) := (HA3.out.block _ (by omega)).trans ((HB3.out.block _ (by rw [Deep.nblk_alloc]; omega)).trans HD1.out)
      have HD11 : Hid ((w3.alloc (.cells #[.int .i64 o2, .int .i64 m2, .slice adl z2 capl] 30)).heap[w3.heap.size]? = some (.cells #[.int .i64 o2, .int .i64 m2, .slice adl z2 capl] 30)) := Deep.blk_alloc_new _ _
      have d0 := HBX.out _ HBB.out
      have q0 := cell_of_blk d0 0 _ rfl
      have q1 := cell_of_blk d0 1 _ rfl
      have q2 := cell_of_blk d0 2 _ rfl
      have qf := fun i => frz_of_blk d0 i
      have hsA : (w3.alloc (.cells #[.int .i64 o2, .int .i64 m2, .slice adl z2 capl] 30)).heap.size = w3.heap.size + 1 := by rw [Deep.nblk_alloc]
      have HQ : Hid (∀ O, ((w3.alloc (.cells #[.int .i64 o2, .int .i64 m2, .slice adl z2 capl] 30)).alloc O).heap[w.heap.size]? = some (.cells #[.int .i64 0, .int .i64 0, .slice none 0 0] 30)) := fun O => HBX.out _ (HBB.out.trans ((box_below _ O).mono (by rw [hsA]; omega)))
      have p0 := fun O => cell_of_blk (HQ.out O) 0 _ rfl
      have p1 := fun O => cell_of_blk (HQ.out O) 1 _ rfl
      have p2 := fun O => cell_of_blk (HQ.out O) 2 _ rfl
      have pf := fun O i => frz_of_blk (HQ.out O) i
      have a0' := cell_of_blk HD8.out 0 _ rfl
      have a1' := cell_of_blk HD8.out 1 _ rfl
      have a2' := cell_of_blk HD8.out 2 _ rfl
      have b0' := cell_of_blk HD11.out 0 _ rfl
      have b1' := cell_of_blk HD11.out 1 _ rfl
      have b2' := cell_of_blk HD11.out 2 _ rfl
      clear d0 hsA
      go_wp2_with fail
      refine (HAT2.out _).mono ?_
      rintro e w4 ⟨rfl, hw4⟩
      rw [← hw4]
      clear hw4
      cases hD : isAtB s ny 41 with
      | false =>
        have HN : Hid (r = (nilT, -1)) := by rw [Hid, HV.out.2, hD]; rfl
        go_wp2_with fail
        exact bodyPost_ret (v := .tuple #[.agg #[.int .i64 0, .int .i64 0, .slice none 0 0], .int .i64 (-1)]) (by simp [results, Try.results108, go_sem, q0, q1, q2]) rfl (PaRes.nil HN.out ((((HBW1.out.trans (HBB.out.mono (by omega))).setCell (Nat.le_refl _) _).setCell (Nat.le_refl _) _).setCell (Nat.le_refl _) _))
      | true =>
        have HN : Hid (r = (Tr.node 8 0 [x, y], ny + 1)) := by rw [Hid, HV.out.2, hD]; rfl
        have hny2 := isAtB_rng hD
        go_wp2_with fail
        obtain ⟨ho, hm, hz⟩ := HOM.out
        obtain ⟨ho2, hm2, hz2⟩ := HOM2.out
        refine bodyPost_ret (v := .tuple #[.agg #[.int .i64 8, .int .i64 0, .slice (some ⟨w3.heap.size + 1, 0, none⟩) 2 2], .int .i64 (ny + 1)]) (by simp [results, Try.results108, go_sem, p0, p1, p2]) rfl ?_
        rw [HN.out, ho, hm, ho2, hm2, hz, hz2]
        exact pa_two HBW1.out hs1 HB13.out hs3 (by have h := HKV.out; rwa [Deep.nblk_alloc] at h) HXI.out (by have h := HKV2.out; rwa [Deep.nblk_alloc] at h) HYI.out
    | false =>
      go_wp2_with fail
      refine ((HAT.out 45 (by decide)) _).mono ?_
      rintro e w2 ⟨rfl, hw2⟩
      rw [← hw2]
      clear hw2
      cases hC : isAtB s nx 45 with
      | true =>
        have HV := mkHid (HT.out 9 (by decide) (isAtB_rng hC).2 (by rw [HO.out, if_neg (by rw [hA]; decide), if_neg (by rw [hB]; decide), if_pos hC]))
        go_wp2_with fail
        refine (HPB.out HV.out.1 _).mono ?_
        rintro e w3 ⟨kv2, rfl, hkv2, hb3⟩
        obtain ⟨adl, capl, rfl, -, -, -⟩ := id hkv2
        have HKV2 := mkHid hkv2
        have HB3 := mkHid hb3
        obtain ⟨o2, ho2⟩ : ∃ o2, o2 = y.op := ⟨_, rfl⟩
        obtain ⟨m2, hm2⟩ : ∃ m2, m2 = y.num := ⟨_, rfl⟩
        obtain ⟨z2, hz2⟩ : ∃ z2, z2 = y.kids.length := ⟨_, rfl⟩
        simp only []
        rw [← ho2, ← hm2, ← hz2]
        have HOM2 := mkHid (And.intro ho2 (And.intro hm2 hz2))
        have hs3 : w1.heap.size + 1 ≤ w3.heap.size := by have := HB3.out.size; rwa [Deep.nblk_alloc] at this
        have HB13 : Hid (Below w1.heap.size w1 w3) := HA1.out.trans (hb3.mono (by rw [Deep.nblk_alloc]; omega))
        clear hkv2 hb3 ho2 hm2 hz2
        have HA3 : Hid (Below w3.heap.size w3 (w3.alloc (.cells #[.int .i64 o2, .int .i64 m2, .slice adl z2 capl] 30))) := box_below _ _
        have HBB : Hid (Below w1.heap.size w1 (w3.alloc (.cells #[.int .i64 o2, .int .i64 m2, .slice adl z2 capl] 30))) := HB13.out.trans (HA3.out.mono (by omega))
        have HD8 : Hid ((w3.alloc (.cells #[.int .i64 o2, .int .i64 m2, .slice adl z2 capl] 30)).heap[w1.heap.size]? = some (.cells #[.int .i64 o, .int .i64 m, .slice adk z capk] 30)) := (HA3.out.block _ (by omega)).trans ((HB3.out.block _ (by rw [Deep.nblk_alloc]; omega)).trans HD1.out)
        have HD11 : Hid ((w3.alloc (.cells #[.int .i64 o2, .int .i64 m2, .slice adl z2 capl] 30)).heap[w3.heap.size]? = some (.cells #[.int .i64 o2, .int .i64 m2, .slice adl z2 capl] 30)) := Deep.blk_alloc_new _ _
        have d0 := HBX.out _ HBB.out
        have q0 := cell_of_blk d0 0 _ rfl
        have q1 := cell_of_blk d0 1 _ rfl
        have q2 := cell_of_blk d0 2 _ rfl
        have qf := fun i => frz_of_blk d0 i
        have hsA : (w3.alloc (.cells #[.int .i64 o2, .int .i64 m2, .slice adl z2 capl] 30)).heap.size = w3.heap.size + 1 := by rw [Deep.nblk_alloc]
        have HQ : Hid (∀ O, ((w3.alloc (.cells #[.int .i64 o2, .int .i64 m2, .slice adl z2 capl] 30)).alloc O).heap[w.heap.size]? = some (.cells #[.int .i64 0, .int .i64 0, .slice none 0 0] 30)) := fun O => HBX.out _ (HBB.out.trans ((box_below _ O).mono (by rw [hsA]; omega)))
        have p0 := fun O => cell_of_blk (HQ.out O) 0 _ rfl
        have p1 := fun O => cell_of_blk (HQ.out O) 1 _ rfl
        have p2 := fun O => cell_of_blk (HQ.out O) 2 _ rfl
        have pf := fun O i => frz_of_blk (HQ.out O) i
        have a0' := cell_of_blk HD8.out 0 _ rfl
        have a1' := cell_of_blk HD8.out 1 _ rfl
        have a2' := cell_of_blk HD8.out 2 _ rfl
        have b0' := cell_of_blk HD11.out 0 _ rfl
        have b1' := cell_of_blk HD11.out 1 _ rfl
        have b2' := cell_of_blk HD11.out 2 _ rfl
        clear d0 hsA
        go_wp2_with fail
        refine (HAT2.out _).mono ?_
        rintro e w4 ⟨rfl, hw4⟩
        rw [← hw4]
        clear hw4
        cases hD : isAtB s ny 41 with
        | false =>
          have HN : Hid (r = (nilT, -1)) := by rw [Hid, HV.out.2, hD]; rfl
          go_wp2_with fail
          exact bodyPost_ret (v := .tuple #[.agg #[.int .i64 0, .int .i64 0, .slice none 0 0], .int .i64 (-1)]) (by simp [results, Try.results108, go_sem, q0, q1, q2]) rfl (PaRes.nil HN.out ((((HBW1.out.trans (HBB.out.mono (by omega))).setCell (Nat.le_refl _) _).setCell (Nat.le_refl _) _).setCell (Nat.le_refl _) _))
        | true =>
          have HN : Hid (r = (Tr.node 9 0 [x, y], ny + 1)) := by rw [Hid, HV.out.2, hD]; rfl
          have hny2 := isAtB_rng hD
          go_wp2_with fail
          obtain ⟨ho, hm, hz⟩ := HOM.out
          obtain ⟨ho2, hm2, hz2⟩ := HOM2.out
          refine bodyPost_ret (v := .tuple #[.agg #[.int .i64 9, .int .i64 0, .slice (some ⟨w3.heap.size + 1, 0, none⟩) 2 2], .int .i64 (ny + 1)]) (by simp [results, Try.results108, go_sem, p0, p1, p2]) rfl ?_
          rw [HN.out, ho, hm, ho2, hm2, hz, hz2]
          exact pa_two HBW1.out hs1 HB13.out hs3 (by have h := HKV.out; rwa [Deep.nblk_alloc] at h) HXI.out (by have h := HKV2.out; rwa [Deep.nblk_alloc] at h) HYI.out
      | false =>
        have HV : Hid (r = (nilT, -1)) := by rw [Hid, HR.out, HO.out, hA, hB, hC]; rfl
        have d0 := HBX.out _ HA1.out
        have q0 := cell_of_blk d0 0 _ rfl
        have q1 := cell_of_blk d0 1 _ rfl
        have q2 := cell_of_blk d0 2 _ rfl
        have qf := fun i => frz_of_blk d0 i
        clear d0
        go_wp2_with fail
        exact bodyPost_ret (v := .tuple #[.agg #[.int .i64 0, .int .i64 0, .slice none 0 0], .int .i64 (-1)]) (by simp [results, Try.results108, go_sem, q0, q1, q2]) rfl (PaRes.nil HV.out ((((HBW1.out.trans (HA1.out.mono (by omega))).setCell (Nat.le_refl _) _).setCell (Nat.le_refl _) _).setCell (Nat.le_refl _) _))
end Go.Proofs.Ytjdlfpdljmohiaa
/-
  THE MODEL's l1Parse.
-/
namespace Go.Proofs.Ytjdlfpdljmohiaa
set_option linter.unusedVariables false
set_option linter.unusedSimpArgs false
open Go.RowKit

theorem parseT_at {s : ByteArray} {k b : Nat} (d : Nat) (hk : k < s.size) (hb : b = bN s k) : parseT s (d + 1) (k : Int) =
    if 97 ≤ b ∧ b ≤ 122 then (.node 1 ((b : Int) - 97) [], (k : Int) + 1)
    else if 65 ≤ b ∧ b ≤ 90 then (.node 3 ((b : Int) - 65) [], (k : Int) + 1)
    else if 48 ≤ b ∧ b ≤ 57 then (.node 2 (numE s 4 k 0).1 [], (numE s 4 k 0).2)
    else if b = 126 then (.node 6 0 [(parseT s d ((k : Int) + 1)).1], (parseT s d ((k : Int) + 1)).2)
    else if b = 94 then (.node 7 0 [(parseT s d ((k : Int) + 1)).1], (parseT s d ((k : Int) + 1)).2)
    else if b = 60 then (.node 5 0 (restT (parseT s d) s [44, 62] ((k : Int) + 1) []).1, (restT (parseT s d) s [44, 62] ((k : Int) + 1) []).2)
    else if b = 91 then (.node 10 0 (restT (parseT s d) s [63, 58, 93] ((k : Int) + 1) []).1, (restT (parseT s d) s [63, 58, 93] ((k : Int) + 1) []).2)
    else if b = 40 then binT (parseT s d) s ((k : Int) + 1)
    else (nilT, -1) := by
  rw [parseT, if_neg (by omega), Int.toNat_natCast, ← hb]
theorem parseT_out {s : ByteArray} {a : Int} (d : Nat) (h : a < 0 ∨ (s.size : Int) ≤ a) : parseT s (d + 1) a = (nilT, -1) := by rw [parseT, if_pos h]

/-- a leaf in a box -/
theorem PaRes.leaf {r : Tr × Int} {w w' : World} {o m n : Int} (h : r = (.node o m [], n)) (hb : Below w.heap.size w w') : PaRes r w (.returned (.tuple #[.agg #[.int .i64 o, .int .i64 m, .slice none 0 0], .int .i64 n])) w' := by
  subst h
  exact ⟨_, rfl, ⟨none, 0, rfl, Nat.le_refl _, by simp [maxLen], Or.inl rfl⟩, hb⟩

set_option maxRecDepth 100000 in
set_option maxHeartbeats 400000 in
theorem l1Parse_zero (s : ByteArray) : PaSaid s 0 := by
  intro a w h0 h1
  have HV : Hid (parseT s 0 a = (nilT, -1)) := rfl
  obtain ⟨r, hr⟩ : ∃ r, r = parseT s 0 a := ⟨_, rfl⟩
  rw [← hr]
  rw [Hid, ← hr] at HV
  have HV : Hid (r = (nilT, -1)) := HV
  clear hr
  go_enter Try.func101, Try.ntmps101
  have hbk : (w.alloc (.cells #[.int .i64 0, .int .i64 0, .slice none 0 0] 30)).heap[w.heap.size]? = some (.cells #[.int .i64 0, .int .i64 0, .slice none 0 0] 30) := Deep.blk_alloc_new _ _
  have y0 := cell_of_blk hbk 0 _ rfl
  have y1 := cell_of_blk hbk 1 _ rfl
  have y2 := cell_of_blk hbk 2 _ rfl
  have yf := fun i => frz_of_blk hbk i
  go_wp2_with fail
  exact bodyPost_ret (v := .tuple #[.agg #[.int .i64 0, .int .i64 0, .slice none 0 0], .int .i64 (-1)]) (by simp [results, Try.results101, go_sem, y0, y1, y2, yf]) rfl (PaRes.nil HV.out (box_below _ _))

set_option maxRecDepth 100000 in
set_option maxHeartbeats 1600000 in
theorem l1Parse_none (s : ByteArray) (d : Nat) (hd : d ≤ 1000) (a : Int) (w : World) (hs : s.size ≤ 1099511627776) (h : a < 0 ∨ (s.size : Int) ≤ a) : Calls Try.prog 101 #[.string s, .int .i64 a, .int .i64 ((d + 1 : Nat) : Int)] w (PaRes (parseT s (d + 1) a) w) := by
  obtain ⟨r, hr⟩ : ∃ r, r = parseT s (d + 1) a := ⟨_, rfl⟩
  rw [← hr]
  have HV : Hid (r = (nilT, -1)) := by rw [Hid, hr, parseT_out d h]
  have hd1 : decide (((d + 1 : Nat) : Int) < 1) = false := by simp; omega
  have hd2 : ¬ ((d : Int) + 1 < 1) := by omega
  clear hr
  rcases h with h | h
  · go_enter Try.func101, Try.ntmps101
    have hbk : (w.alloc (.cells #[.int .i64 0, .int .i64 0, .slice none 0 0] 30)).heap[w.heap.size]? = some (.cells #[.int .i64 0, .int .i64 0, .slice none 0 0] 30) := Deep.blk_alloc_new _ _
    have y0 := cell_of_blk hbk 0 _ rfl
    have y1 := cell_of_blk hbk 1 _ rfl
    have y2 := cell_of_blk hbk 2 _ rfl
    have yf := fun i => frz_of_blk hbk i
    go_wp2_with fail
    exact bodyPost_ret (v := .tuple #[.agg #[.int .i64 0, .int .i64 0, .slice none 0 0], .int .i64 (-1)]) (by simp [results, Try.results101, go_sem, y0, y1, y2, yf]) rfl (PaRes.nil HV.out (box_below _ _))
  · have hn0 : ¬ a < 0 := by omega
    go_enter Try.func101, Try.ntmps101
    have hbk : (w.alloc (.cells #[.int .i64 0, .int .i64 0, .slice none 0 0] 30)).heap[w.heap.size]? = some (.cells #[.int .i64 0, .int .i64 0, .slice none 0 0] 30) := Deep.blk_alloc_new _ _
    have y0 := cell_of_blk hbk 0 _ rfl
    have y1 := cell_of_blk hbk 1 _ rfl
    have y2 := cell_of_blk hbk 2 _ rfl
    have yf := fun i => frz_of_blk hbk i
    go_wp2_with fail
    exact bodyPost_ret (v := .tuple #[.agg #[.int .i64 0, .int .i64 0, .slice none 0 0], .int .i64 (-1)]) (by simp [results, Try.results101, go_sem, y0, y1, y2, yf]) rfl (PaRes.nil HV.out (box_below _ _))
end Go.Proofs.Ytjdlfpdljmohiaa
/-
  THE MODEL's l1Parse, BY THE BYTE AT THE PLACE.
-/
namespace Go.Proofs.Ytjdlfpdljmohiaa
set_option linter.unusedVariables false
set_option linter.unusedSimpArgs false
open Go.RowKit

theorem pa_one {w w1 : World} {x : Tr} {u n : Int} {kx : Value} {o : Obj} (h1 : Below w.heap.size w w1) (hs1 : w.heap.size + 1 ≤ w1.heap.size)
    (hkx : KidsOn w1 (PN (w.heap.size + 1) w1) x.kids kx) (hix : I64 x.op ∧ I64 x.num) :
    PaRes (.node u 0 [x], n) w (.returned (.tuple #[.agg #[.int .i64 u, .int .i64 0, .slice (some ⟨w1.heap.size + 1, 0, none⟩) 1 1], .int .i64 n]))
      (((((w1.alloc o).alloc (.cells #[.int .i64 x.op, .int .i64 x.num, kx] 30)).setCell ⟨w.heap.size, 0, none⟩ (.int .i64 u)).setCell ⟨w.heap.size, 1, none⟩ (.int .i64 0)).setCell ⟨w.heap.size, 2, none⟩ (.slice (some ⟨w1.heap.size + 1, 0, none⟩) 1 1)) := by
  have hsA : (w1.alloc o).heap.size = w1.heap.size + 1 := by rw [Deep.nblk_alloc]
  have hb : Below w.heap.size w ((w1.alloc o).alloc (.cells #[.int .i64 x.op, .int .i64 x.num, kx] 30)) :=
    h1.trans (((box_below w1 o).trans ((box_below _ _).mono (by omega))).mono (by omega))
  have hF := set3_below hb (.int .i64 u) (.int .i64 0) (.slice (some ⟨w1.heap.size + 1, 0, none⟩) 1 1)
  have hsz : w1.heap.size + 2 ≤ (((((w1.alloc o).alloc (.cells #[.int .i64 x.op, .int .i64 x.num, kx] 30)).setCell ⟨w.heap.size, 0, none⟩ (.int .i64 u)).setCell ⟨w.heap.size, 1, none⟩ (.int .i64 0)).setCell ⟨w.heap.size, 2, none⟩ (.slice (some ⟨w1.heap.size + 1, 0, none⟩) 1 1)).heap.size := by
    have := (set3_below (Below.refl w.heap.size ((w1.alloc o).alloc (.cells #[.int .i64 x.op, .int .i64 x.num, kx] 30))) (.int .i64 u) (.int .i64 0) (.slice (some ⟨w1.heap.size + 1, 0, none⟩) 1 1)).size
    rw [Deep.nblk_alloc, Deep.nblk_alloc] at this
    omega
  have hrow : (((((w1.alloc o).alloc (.cells #[.int .i64 x.op, .int .i64 x.num, kx] 30)).setCell ⟨w.heap.size, 0, none⟩ (.int .i64 u)).setCell ⟨w.heap.size, 1, none⟩ (.int .i64 0)).setCell ⟨w.heap.size, 2, none⟩ (.slice (some ⟨w1.heap.size + 1, 0, none⟩) 1 1)).heap[w1.heap.size + 1]? = some (.cells #[.int .i64 x.op, .int .i64 x.num, kx] 30) := by
    rw [set3_heap _ _ _ _ _ _ (by omega), ← hsA]
    exact Deep.blk_alloc_new _ _
  have hblk : ∀ k, PN (w.heap.size + 1) w1 k → (((((w1.alloc o).alloc (.cells #[.int .i64 x.op, .int .i64 x.num, kx] 30)).setCell ⟨w.heap.size, 0, none⟩ (.int .i64 u)).setCell ⟨w.heap.size, 1, none⟩ (.int .i64 0)).setCell ⟨w.heap.size, 2, none⟩ (.slice (some ⟨w1.heap.size + 1, 0, none⟩) 1 1)).heap[k]? = w1.heap[k]? := by
    intro k hk
    have h1 : w.heap.size + 1 ≤ k := hk.1
    have h2 : k < w1.heap.size := hk.2.1
    rw [set3_heap _ _ _ _ _ _ (by omega), Deep.blk_alloc_lt _ _ _ (by omega), Deep.blk_alloc_lt _ _ _ h2]
  refine ⟨_, rfl, kids1 (W := w1) (S := PN (w.heap.size + 1) w1) (a := .int .i64 x.op) (b := .int .i64 x.num) (c := kx) (trOn_iff.2 ⟨rfl, rfl, hix.1, hix.2, hkx⟩) ?_ ?_ ?_ ?_, hF⟩
  · exact hrow
  · exact fun k hk => hk.go (by omega) (hblk k hk)
  · exact hblk
  · exact ⟨by omega, by omega, _, _, hrow⟩
/-- operands that lie in new memory, in a box -/
theorem pa_row {w w1 : World} {r : Tr × Int} {u n : Int} {ts : List Tr} {kv : Value} (hr : r = (.node u 0 ts, n)) (h1 : Below w.heap.size w w1) (hs1 : w.heap.size + 1 ≤ w1.heap.size) (hk : KidsOn w1 (PN (w.heap.size + 1) w1) ts kv) :
    PaRes r w (.returned (.tuple #[.agg #[.int .i64 u, .int .i64 0, kv], .int .i64 n])) (((w1.setCell ⟨w.heap.size, 0, none⟩ (.int .i64 u)).setCell ⟨w.heap.size, 1, none⟩ (.int .i64 0)).setCell ⟨w.heap.size, 2, none⟩ kv) := by
  subst hr
  have hF := set3_below h1 (.int .i64 u) (.int .i64 0) kv
  refine ⟨kv, rfl, hk.mono (fun k hk => hk.go (by omega) (set3_heap _ _ _ _ _ _ (by have : w.heap.size + 1 ≤ k := hk.1; omega))) (fun k hk => set3_heap _ _ _ _ _ _ (by have : w.heap.size + 1 ≤ k := hk.1; omega)), hF⟩
/-- the same, where a number comes with it -/
theorem pa_any {w w1 : World} {r : Tr × Int} {kv : Value} (h1 : Below w.heap.size w w1) (hs1 : w.heap.size + 1 ≤ w1.heap.size) (hk : KidsOn w1 (PN (w.heap.size + 1) w1) r.1.kids kv) :
    PaRes r w (.returned (.tuple #[.agg #[.int .i64 r.1.op, .int .i64 r.1.num, kv], .int .i64 r.2])) (((w1.setCell ⟨w.heap.size, 0, none⟩ (.int .i64 r.1.op)).setCell ⟨w.heap.size, 1, none⟩ (.int .i64 r.1.num)).setCell ⟨w.heap.size, 2, none⟩ kv) := by
  have hF := set3_below h1 (.int .i64 r.1.op) (.int .i64 r.1.num) kv
  refine ⟨kv, rfl, hk.mono (fun k hk => hk.go (by omega) (set3_heap _ _ _ _ _ _ (by have : w.heap.size + 1 ≤ k := hk.1; omega))) (fun k hk => set3_heap _ _ _ _ _ _ (by have : w.heap.size + 1 ≤ k := hk.1; omega)), hF⟩

set_option maxRecDepth 100000 in
set_option maxHeartbeats 1600000 in
theorem l1Parse_var (s : ByteArray) (d : Nat) (hd : d ≤ 1000) (k b : Nat) (w : World) (hs : s.size ≤ 1099511627776) (hk : k < s.size) (hbE : b = bN s k) (h0 : 97 ≤ b) (h9 : b ≤ 122) :
    Calls Try.prog 101 #[.string s, .int .i64 (k : Int), .int .i64 ((d + 1 : Nat) : Int)] w (PaRes (parseT s (d + 1) (k : Int)) w) := by
  obtain ⟨r, hr⟩ : ∃ r, r = parseT s (d + 1) (k : Int) := ⟨_, rfl⟩
  rw [← hr]
  rw [parseT_at d hk hbE] at hr
  have hb : (s[k]'hk).toNat = b := (bN_at hk).trans hbE.symm
  have hd1 : decide (((d + 1 : Nat) : Int) < 1) = false := by simp; omega
  have hd2 : ¬ ((d : Int) + 1 < 1) := by omega
  have hk0 : ¬ ((k : Int) < 0) := by omega
  obtain ⟨q, hq⟩ : ∃ q, q = b - 97 := ⟨_, rfl⟩
  have hq9 : q ≤ 25 := by omega
  have hw1 : IntKind.u8.wrap ((b : Int) - 97) = (q : Int) := by rw [IntWalk.u8_in _ (by omega)]; omega
  have HV : Hid (r = (.node 1 (q : Int) [], (k : Int) + 1)) := by
    have e : (b : Int) - 97 = (q : Int) := by omega
    rw [Hid, hr, if_pos ⟨h0, h9⟩, e]
  clear hr hq hbE
  go_enter Try.func101, Try.ntmps101
  have hbk : (w.alloc (.cells #[.int .i64 1, .int .i64 (q : Int), .slice none 0 0] 30)).heap[w.heap.size]? = some (.cells #[.int .i64 1, .int .i64 (q : Int), .slice none 0 0] 30) := Deep.blk_alloc_new _ _
  have y0 := cell_of_blk hbk 0 _ rfl
  have y1 := cell_of_blk hbk 1 _ rfl
  have y2 := cell_of_blk hbk 2 _ rfl
  have yf := fun i => frz_of_blk hbk i
  go_wp2_with fail
  exact bodyPost_ret (v := .tuple #[.agg #[.int .i64 1, .int .i64 (q : Int), .slice none 0 0], .int .i64 ((k : Int) + 1)]) (by simp [results, Try.results101, go_sem, y0, y1, y2, yf]) rfl (PaRes.leaf HV.out (box_below _ _))

set_option maxRecDepth 100000 in
set_option maxHeartbeats 1600000 in
theorem l1Parse_glob (s : ByteArray) (d : Nat) (hd : d ≤ 1000) (k b : Nat) (w : World) (hs : s.size ≤ 1099511627776) (hk : k < s.size) (hbE : b = bN s k) (h0 : 65 ≤ b) (h9 : b ≤ 90) :
    Calls Try.prog 101 #[.string s, .int .i64 (k : Int), .int .i64 ((d + 1 : Nat) : Int)] w (PaRes (parseT s (d + 1) (k : Int)) w) := by
  obtain ⟨r, hr⟩ : ∃ r, r = parseT s (d + 1) (k : Int) := ⟨_, rfl⟩
  rw [← hr]
  rw [parseT_at d hk hbE] at hr
  have hb : (s[k]'hk).toNat = b := (bN_at hk).trans hbE.symm
  have hd1 : decide (((d + 1 : Nat) : Int) < 1) = false := by simp; omega
  have hd2 : ¬ ((d : Int) + 1 < 1) := by omega
  have hk0 : ¬ ((k : Int) < 0) := by omega
  have n0 : ¬ 97 ≤ b := by omega
  obtain ⟨q, hq⟩ : ∃ q, q = b - 65 := ⟨_, rfl⟩
  have hq9 : q ≤ 25 := by omega
  have hw1 : IntKind.u8.wrap ((b : Int) - 65) = (q : Int) := by rw [IntWalk.u8_in _ (by omega)]; omega
  have HV : Hid (r = (.node 3 (q : Int) [], (k : Int) + 1)) := by
    have e : (b : Int) - 65 = (q : Int) := by omega
    rw [Hid, hr, if_neg (by omega), if_pos ⟨h0, h9⟩, e]
  clear hr hq hbE
  go_enter Try.func101, Try.ntmps101
  have hbk : (w.alloc (.cells #[.int .i64 3, .int .i64 (q : Int), .slice none 0 0] 30)).heap[w.heap.size]? = some (.cells #[.int .i64 3, .int .i64 (q : Int), .slice none 0 0] 30) := Deep.blk_alloc_new _ _
  have y0 := cell_of_blk hbk 0 _ rfl
  have y1 := cell_of_blk hbk 1 _ rfl
  have y2 := cell_of_blk hbk 2 _ rfl
  have yf := fun i => frz_of_blk hbk i
  go_wp2_with fail
  exact bodyPost_ret (v := .tuple #[.agg #[.int .i64 3, .int .i64 (q : Int), .slice none 0 0], .int .i64 ((k : Int) + 1)]) (by simp [results, Try.results101, go_sem, y0, y1, y2, yf]) rfl (PaRes.leaf HV.out (box_below _ _))

set_option maxRecDepth 100000 in
set_option maxHeartbeats 1600000 in
theorem l1Parse_num (s : ByteArray) (d : Nat) (hd : d ≤ 1000) (k b : Nat) (w : World) (hs : s.size ≤ 1099511627776) (hk : k < s.size) (hbE : b = bN s k) (h0 : 48 ≤ b) (h9 : b ≤ 57) :
    Calls Try.prog 101 #[.string s, .int .i64 (k : Int), .int .i64 ((d + 1 : Nat) : Int)] w (PaRes (parseT s (d + 1) (k : Int)) w) := by
  obtain ⟨r, hr⟩ : ∃ r, r = parseT s (d + 1) (k : Int) := ⟨_, rfl⟩
  rw [← hr]
  rw [parseT_at d hk hbE] at hr
  have hb : (s[k]'hk).toNat = b := (bN_at hk).trans hbE.symm
  have hd1 : decide (((d + 1 : Nat) : Int) < 1) = false := by simp; omega
  have hd2 : ¬ ((d : Int) + 1 < 1) := by omega
  have hk0 : ¬ ((k : Int) < 0) := by omega
  have n0 : ¬ 97 ≤ b := by omega
  have n1 : ¬ 65 ≤ b := by omega
  obtain ⟨qn, hqn⟩ : ∃ q, q = numE s 4 k 0 := ⟨_, rfl⟩
  have HC := mkHid fun W => l1Number_calls s k W (Nat.le_of_lt hk) hs
  rw [← hqn] at HC
  obtain ⟨n, e⟩ := qn
  have HV : Hid (r = (.node 2 (n : Int) [], (e : Int))) := by rw [Hid, hr, if_neg (by omega), if_neg (by omega), if_pos ⟨h0, h9⟩, ← hqn]
  clear hr hbE hqn
  go_enter Try.func101, Try.ntmps101
  go_wp2_with fail
  refine (HC.out _).mono ?_
  rintro e1 w1 ⟨rfl, hb1⟩
  obtain ⟨y0, y1, y2, hs1, hbw⟩ := box_after hb1
  have yf := fun i => frz_of_blk ((hb1.block w.heap.size (by rw [Deep.nblk_alloc]; omega)).trans (Deep.blk_alloc_new _ _)) i
  have HBW := mkHid hbw
  clear hb1 hbw
  simp only []
  go_wp2_with fail
  exact bodyPost_ret (v := .tuple #[.agg #[.int .i64 2, .int .i64 (n : Int), .slice none 0 0], .int .i64 (e : Int)]) (by simp [results, Try.results101, go_sem, y0, y1, y2, yf]) rfl (PaRes.leaf HV.out (set3_below HBW.out _ _ _))

set_option maxRecDepth 100000 in
set_option maxHeartbeats 1600000 in
theorem l1Parse_fst (s : ByteArray) (d : Nat) (hd : d ≤ 1000) (k b : Nat) (w : World) (hs : s.size ≤ 1099511627776) (hk : k < s.size) (hbE : b = bN s k) (h0 : b = 126) (hP : PaSaid s d) :
    Calls Try.prog 101 #[.string s, .int .i64 (k : Int), .int .i64 ((d + 1 : Nat) : Int)] w (PaRes (parseT s (d + 1) (k : Int)) w) := by
  obtain ⟨r, hr⟩ : ∃ r, r = parseT s (d + 1) (k : Int) := ⟨_, rfl⟩
  rw [← hr]
  rw [parseT_at d hk hbE] at hr
  have hb : (s[k]'hk).toNat = b := (bN_at hk).trans hbE.symm
  have hd1 : decide (((d + 1 : Nat) : Int) < 1) = false := by simp; omega
  have hd2 : ¬ ((d : Int) + 1 < 1) := by omega
  have hk0 : ¬ ((k : Int) < 0) := by omega
  have HPB := mkHid fun W => hP ((k : Int) + 1) W (by omega) (by omega)
  have HRG := mkHid (parseT_rng s d ((k : Int) + 1))
  have HV : Hid (r = (.node 6 0 [(parseT s d ((k : Int) + 1)).1], (parseT s d ((k : Int) + 1)).2)) := by rw [Hid, hr, if_neg (by omega), if_neg (by omega), if_neg (by omega), if_pos h0]
  obtain ⟨q, hq⟩ : ∃ q, q = parseT s d ((k : Int) + 1) := ⟨_, rfl⟩
  rw [← hq] at HPB HRG HV
  obtain ⟨x, nx⟩ := q
  have HXI := mkHid HRG.out.i64
  clear hr hbE hq hP HRG
  subst h0
  go_enter Try.func101, Try.ntmps101
  go_wp2_with fail
  refine (HPB.out _).mono ?_
  rintro e1 w1 ⟨kv, rfl, hkv, hb1⟩
  obtain ⟨adk, capk, rfl, -, -, -⟩ := id hkv
  have HKV := mkHid hkv
  obtain ⟨-, -, -, hs1, hbw⟩ := box_after hb1
  have hbx := (hb1.block w.heap.size (by rw [Deep.nblk_alloc]; omega)).trans (Deep.blk_alloc_new _ _)
  have HBW := mkHid hbw
  have HS1 : Hid (w.heap.size + 1 ≤ w1.heap.size) := hs1
  simp only [] at HV ⊢
  obtain ⟨o, ho⟩ : ∃ o, o = x.op := ⟨_, rfl⟩
  obtain ⟨m, hm⟩ : ∃ m, m = x.num := ⟨_, rfl⟩
  obtain ⟨z, hz⟩ : ∃ z, z = x.kids.length := ⟨_, rfl⟩
  rw [← ho, ← hm, ← hz]
  have HOM := mkHid (And.intro ho (And.intro hm hz))
  clear ho hm hz hkv hb1 hbw hs1
  have HQ : Hid (∀ O, ((w1.alloc (.cells #[.int .i64 o, .int .i64 m, .slice adk z capk] 30)).alloc O).heap[w.heap.size]? = some (.cells #[.int .i64 0, .int .i64 0, .slice none 0 0] 30)) := fun O => by
    rw [Deep.blk_alloc_lt _ _ _ (by rw [Deep.nblk_alloc]; have := HS1.out; omega), Deep.blk_alloc_lt _ _ _ HS1.out]
    exact hbx
  have p0 := fun O => cell_of_blk (HQ.out O) 0 _ rfl
  have p1 := fun O => cell_of_blk (HQ.out O) 1 _ rfl
  have p2 := fun O => cell_of_blk (HQ.out O) 2 _ rfl
  have pf := fun O i => frz_of_blk (HQ.out O) i
  clear hbx
  have a0' := box_cell w1 #[.int .i64 o, .int .i64 m, .slice adk z capk] 30 0 _ rfl
  have a1' := box_cell w1 #[.int .i64 o, .int .i64 m, .slice adk z capk] 30 1 _ rfl
  have a2' := box_cell w1 #[.int .i64 o, .int .i64 m, .slice adk z capk] 30 2 _ rfl
  go_wp2_with fail
  obtain ⟨ho, hm, hz⟩ := HOM.out
  refine bodyPost_ret (v := .tuple #[.agg #[.int .i64 6, .int .i64 0, .slice (some ⟨w1.heap.size + 1, 0, none⟩) 1 1], .int .i64 nx]) (by simp [results, Try.results101, go_sem, p0, p1, p2, pf]) rfl ?_
  rw [HV.out, ho, hm, hz]
  exact pa_one HBW.out HS1.out (by have h := HKV.out; rwa [Deep.nblk_alloc] at h) HXI.out

set_option maxRecDepth 100000 in
set_option maxHeartbeats 1600000 in
theorem l1Parse_snd (s : ByteArray) (d : Nat) (hd : d ≤ 1000) (k b : Nat) (w : World) (hs : s.size ≤ 1099511627776) (hk : k < s.size) (hbE : b = bN s k) (h0 : b = 94) (hP : PaSaid s d) :
    Calls Try.prog 101 #[.string s, .int .i64 (k : Int), .int .i64 ((d + 1 : Nat) : Int)] w (PaRes (parseT s (d + 1) (k : Int)) w) := by
  obtain ⟨r, hr⟩ : ∃ r, r = parseT s (d + 1) (k : Int) := ⟨_, rfl⟩
  rw [← hr]
  rw [parseT_at d hk hbE] at hr
  have hb : (s[k]'hk).toNat = b := (bN_at hk).trans hbE.symm
  have hd1 : decide (((d + 1 : Nat) : Int) < 1) = false := by simp; omega
  have hd2 : ¬ ((d : Int) + 1 < 1) := by omega
  have hk0 : ¬ ((k : Int) < 0) := by omega
  have HPB := mkHid fun W => hP ((k : Int) + 1) W (by omega) (by omega)
  have HRG := mkHid (parseT_rng s d ((k : Int) + 1))
  have HV : Hid (r = (.node 7 0 [(parseT s d ((k : Int) + 1)).1], (parseT s d ((k : Int) + 1)).2)) := by rw [Hid, hr, if_neg (by omega), if_neg (by omega), if_neg (by omega), if_neg (by omega), if_pos h0]
  obtain ⟨q, hq⟩ : ∃ q, q = parseT s d ((k : Int) + 1) := ⟨_, rfl⟩
  rw [← hq] at HPB HRG HV
  obtain ⟨x, nx⟩ := q
  have HXI := mkHid HRG.out.i64
  clear hr hbE hq hP HRG
  subst h0
  go_enter Try.func101, Try.ntmps101
  go_wp2_with fail
  refine (HPB.out _).mono ?_
  rintro e1 w1 ⟨kv, rfl, hkv, hb1⟩
  obtain ⟨adk, capk, rfl, -, -, -⟩ := id hkv
  have HKV := mkHid hkv
  obtain ⟨-, -, -, hs1, hbw⟩ := box_after hb1
  have hbx := (hb1.block w.heap.size (by rw [Deep.nblk_alloc]; omega)).trans (Deep.blk_alloc_new _ _)
  have HBW := mkHid hbw
  have HS1 : Hid (w.heap.size + 1 ≤ w1.heap.size) := hs1
  simp only [] at HV ⊢
  obtain ⟨o, ho⟩ : ∃ o, o = x.op := ⟨_, rfl⟩
  obtain ⟨m, hm⟩ : ∃ m, m = x.num := ⟨_, rfl⟩
  obtain ⟨z, hz⟩ : ∃ z, z = x.kids.length := ⟨_, rfl⟩
  rw [← ho, ← hm, ← hz]
  have HOM := mkHid (And.intro ho (And.intro hm hz))
  clear ho hm hz hkv hb1 hbw hs1
  have HQ : Hid (∀ O, ((w1.alloc (.cells #[.int .i64 o, .int .i64 m, .slice adk z capk] 30)).alloc O).heap[w.heap.size]? = some (.cells #[.int .i64 0, .int .i64 0, .slice none 0 0] 30)) := fun O => by
    rw [Deep.blk_alloc_lt _ _ _ (by rw [Deep.nblk_alloc]; have := HS1.out; omega), Deep.blk_alloc_lt _ _ _ HS1.out]
    exact hbx
  have p0 := fun O => cell_of_blk (HQ.out O) 0 _ rfl
  have p1 := fun O => cell_of_blk (HQ.out O) 1 _ rfl
  have p2 := fun O => cell_of_blk (HQ.out O) 2 _ rfl
  have pf := fun O i => frz_of_blk (HQ.out O) i
  clear hbx
  have a0' := box_cell w1 #[.int .i64 o, .int .i64 m, .slice adk z capk] 30 0 _ rfl
  have a1' := box_cell w1 #[.int .i64 o, .int .i64 m, .slice adk z capk] 30 1 _ rfl
  have a2' := box_cell w1 #[.int .i64 o, .int .i64 m, .slice adk z capk] 30 2 _ rfl
  go_wp2_with fail
  obtain ⟨ho, hm, hz⟩ := HOM.out
  refine bodyPost_ret (v := .tuple #[.agg #[.int .i64 7, .int .i64 0, .slice (some ⟨w1.heap.size + 1, 0, none⟩) 1 1], .int .i64 nx]) (by simp [results, Try.results101, go_sem, p0, p1, p2, pf]) rfl ?_
  rw [HV.out, ho, hm, hz]
  exact pa_one HBW.out HS1.out (by have h := HKV.out; rwa [Deep.nblk_alloc] at h) HXI.out

set_option maxRecDepth 100000 in
set_option maxHeartbeats 1600000 in
theorem l1Parse_pair (s : ByteArray) (d : Nat) (hd : d ≤ 1000) (k b : Nat) (w : World) (hs : s.size ≤ 1099511627776) (hk : k < s.size) (hbE : b = bN s k) (h0 : b = 60) (hP : PaSaid s d) :
    Calls Try.prog 101 #[.string s, .int .i64 (k : Int), .int .i64 ((d + 1 : Nat) : Int)] w (PaRes (parseT s (d + 1) (k : Int)) w) := by
  obtain ⟨r, hr⟩ : ∃ r, r = parseT s (d + 1) (k : Int) := ⟨_, rfl⟩
  rw [← hr]
  rw [parseT_at d hk hbE] at hr
  have hb : (s[k]'hk).toNat = b := (bN_at hk).trans hbE.symm
  have hd1 : decide (((d + 1 : Nat) : Int) < 1) = false := by simp; omega
  have hd2 : ¬ ((d : Int) + 1 < 1) := by omega
  have hk0 : ¬ ((k : Int) < 0) := by omega
  have HV : Hid (r = (.node 5 0 (restT (parseT s d) s [44, 62] ((k : Int) + 1) []).1, (restT (parseT s d) s [44, 62] ((k : Int) + 1) []).2)) := by rw [Hid, hr, if_neg (by omega), if_neg (by omega), if_neg (by omega), if_neg (by omega), if_neg (by omega), if_pos h0]
  have HC := mkHid fun (bl : Nat) (W : World) hcells => l1Rest_calls s d hs hP [44, 62] (by decide) (by decide) ((k : Int) + 1) bl 2 W (by omega) (by omega) hcells (by decide) (by unfold maxLen; decide)
  obtain ⟨q, hq⟩ : ∃ q, q = restT (parseT s d) s [44, 62] ((k : Int) + 1) [] := ⟨_, rfl⟩
  rw [← hq] at HV HC
  obtain ⟨ts, nx⟩ := q
  clear hr hbE hq hP
  subst h0
  go_enter Try.func101, Try.ntmps101
  go_wp2_with fail
  refine (HC.out (w.heap.size + 1) _ ?_).mono ?_
  · intro i hi
    rcases (by simp at hi; omega : i = 0 ∨ i = 1) with rfl | rfl
    · have h := box_cell (w.alloc (.cells #[.int .i64 0, .int .i64 0, .slice none 0 0] 30)) #[.int .u8 44, .int .u8 62] 5 0 _ rfl; rw [Deep.nblk_alloc] at h; exact h
    · have h := box_cell (w.alloc (.cells #[.int .i64 0, .int .i64 0, .slice none 0 0] 30)) #[.int .u8 44, .int .u8 62] 5 1 _ rfl; rw [Deep.nblk_alloc] at h; exact h
  rintro e1 w1 ⟨kv, rfl, hkv, hb1⟩
  obtain ⟨adk, capk, rfl, -, -, -⟩ := id hkv
  have hb2 := hb1
  rw [Deep.nblk_alloc, Deep.nblk_alloc] at hb2 hkv
  have hs1 : w.heap.size + 1 ≤ w1.heap.size := by have := hb1.size; rw [Deep.nblk_alloc, Deep.nblk_alloc] at this; omega
  have HBW : Hid (Below w.heap.size w w1) := ((box_below _ _).trans ((box_below _ _).mono (by rw [Deep.nblk_alloc]; omega))).trans (hb2.mono (by omega))
  have d0 : w1.heap[w.heap.size]? = some (.cells #[.int .i64 0, .int .i64 0, .slice none 0 0] 30) := (hb2.block _ (by omega)).trans ((Deep.blk_alloc_lt _ _ _ (by rw [Deep.nblk_alloc]; omega)).trans (Deep.blk_alloc_new _ _))
  have HKV : Hid (KidsOn w1 (PN (w.heap.size + 1) w1) ts (.slice adk ts.length capk)) := hkv.mono (fun k hk => hk.go (by omega) rfl) (fun _ _ => rfl)
  have q0 := cell_of_blk d0 0 _ rfl
  have q1 := cell_of_blk d0 1 _ rfl
  have q2 := cell_of_blk d0 2 _ rfl
  have qf := fun i => frz_of_blk d0 i
  obtain ⟨z, hz⟩ : ∃ z, z = ts.length := ⟨_, rfl⟩
  rw [← hz] at HKV ⊢
  simp only [] at HV ⊢
  clear hkv hb1 hb2 d0 hz
  go_wp2_with fail
  exact bodyPost_ret (v := .tuple #[.agg #[.int .i64 5, .int .i64 0, .slice adk z capk], .int .i64 nx]) (by simp [results, Try.results101, go_sem, q0, q1, q2, qf]) rfl (pa_row HV.out HBW.out hs1 HKV.out)

set_option maxRecDepth 100000 in
set_option maxHeartbeats 1600000 in
theorem l1Parse_cond (s : ByteArray) (d : Nat) (hd : d ≤ 1000) (k b : Nat) (w : World) (hs : s.size ≤ 1099511627776) (hk : k < s.size) (hbE : b = bN s k) (h0 : b = 91) (hP : PaSaid s d) :
    Calls Try.prog 101 #[.string s, .int .i64 (k : Int), .int .i64 ((d + 1 : Nat) : Int)] w (PaRes (parseT s (d + 1) (k : Int)) w) := by
  obtain ⟨r, hr⟩ : ∃ r, r = parseT s (d + 1) (k : Int) := ⟨_, rfl⟩
  rw [← hr]
  rw [parseT_at d hk hbE] at hr
  have hb : (s[k]'hk).toNat = b := (bN_at hk).trans hbE.symm
  have hd1 : decide (((d + 1 : Nat) : Int) < 1) = false := by simp; omega
  have hd2 : ¬ ((d : Int) + 1 < 1) := by omega
  have hk0 : ¬ ((k : Int) < 0) := by omega
  have HV : Hid (r = (.node 10 0 (restT (parseT s d) s [63, 58, 93] ((k : Int) + 1) []).1, (restT (parseT s d) s [63, 58, 93] ((k : Int) + 1) []).2)) := by rw [Hid, hr, if_neg (by omega), if_neg (by omega), if_neg (by omega), if_neg (by omega), if_neg (by omega), if_neg (by omega), if_pos h0]
  have HC := mkHid fun (bl : Nat) (W : World) hcells => l1Rest_calls s d hs hP [63, 58, 93] (by decide) (by decide) ((k : Int) + 1) bl 3 W (by omega) (by omega) hcells (by decide) (by unfold maxLen; decide)
  obtain ⟨q, hq⟩ : ∃ q, q = restT (parseT s d) s [63, 58, 93] ((k : Int) + 1) [] := ⟨_, rfl⟩
  rw [← hq] at HV HC
  obtain ⟨ts, nx⟩ := q
  clear hr hbE hq hP
  subst h0
  go_enter Try.func101, Try.ntmps101
  go_wp2_with fail
  refine (HC.out (w.heap.size + 1) _ ?_).mono ?_
  · intro i hi
    rcases (by simp at hi; omega : i = 0 ∨ i = 1 ∨ i = 2) with rfl | rfl | rfl
    · have h := box_cell (w.alloc (.cells #[.int .i64 0, .int .i64 0, .slice none 0 0] 30)) #[.int .u8 63, .int .u8 58, .int .u8 93] 5 0 _ rfl; rw [Deep.nblk_alloc] at h; exact h
    · have h := box_cell (w.alloc (.cells #[.int .i64 0, .int .i64 0, .slice none 0 0] 30)) #[.int .u8 63, .int .u8 58, .int .u8 93] 5 1 _ rfl; rw [Deep.nblk_alloc] at h; exact h
    · have h := box_cell (w.alloc (.cells #[.int .i64 0, .int .i64 0, .slice none 0 0] 30)) #[.int .u8 63, .int .u8 58, .int .u8 93] 5 2 _ rfl; rw [Deep.nblk_alloc] at h; exact h
  rintro e1 w1 ⟨kv, rfl, hkv, hb1⟩
  obtain ⟨adk, capk, rfl, -, -, -⟩ := id hkv
  have hb2 := hb1
  rw [Deep.nblk_alloc, Deep.nblk_alloc] at hb2 hkv
  have hs1 : w.heap.size + 1 ≤ w1.heap.size := by have := hb1.size; rw [Deep.nblk_alloc, Deep.nblk_alloc] at this; omega
  have HBW : Hid (Below w.heap.size w w1) := ((box_below _ _).trans ((box_below _ _).mono (by rw [Deep.nblk_alloc]; omega))).trans (hb2.mono (by omega))
  have d0 : w1.heap[w.heap.size]? = some (.cells #[.int .i64 0, .int .i64 0, .slice none 0 0] 30) := (hb2.block _ (by omega)).trans ((Deep.blk_alloc_lt _ _ _ (by rw [Deep.nblk_alloc]; omega)).trans (Deep.blk_alloc_new _ _))
  have HKV : Hid (KidsOn w1 (PN (w.heap.size + 1) w1) ts (.slice adk ts.length capk)) := hkv.mono (fun k hk => hk.go (by omega) rfl) (fun _ _ => rfl)
  have q0 := cell_of_blk d0 0 _ rfl
  have q1 := cell_of_blk d0 1 _ rfl
  have q2 := cell_of_blk d0 2 _ rfl
  have qf := fun i => frz_of_blk d0 i
  obtain ⟨z, hz⟩ : ∃ z, z = ts.length := ⟨_, rfl⟩
  rw [← hz] at HKV ⊢
  simp only [] at HV ⊢
  clear hkv hb1 hb2 d0 hz
  go_wp2_with fail
  exact bodyPost_ret (v := .tuple #[.agg #[.int .i64 10, .int .i64 0, .slice adk z capk], .int .i64 nx]) (by simp [results, Try.results101, go_sem, q0, q1, q2, qf]) rfl (pa_row HV.out HBW.out hs1 HKV.out)

set_option maxRecDepth 100000 in
set_option maxHeartbeats 1600000 in
theorem l1Parse_bin (s : ByteArray) (d : Nat) (hd : d ≤ 1000) (k b : Nat) (w : World) (hs : s.size ≤ 1099511627776) (hk : k < s.size) (hbE : b = bN s k) (h0 : b = 40) (hP : PaSaid s d) :
    Calls Try.prog 101 #[.string s, .int .i64 (k : Int), .int .i64 ((d + 1 : Nat) : Int)] w (PaRes (parseT s (d + 1) (k : Int)) w) := by
  obtain ⟨r, hr⟩ : ∃ r, r = parseT s (d + 1) (k : Int) := ⟨_, rfl⟩
  rw [← hr]
  rw [parseT_at d hk hbE] at hr
  have hb : (s[k]'hk).toNat = b := (bN_at hk).trans hbE.symm
  have hd1 : decide (((d + 1 : Nat) : Int) < 1) = false := by simp; omega
  have hd2 : ¬ ((d : Int) + 1 < 1) := by omega
  have hk0 : ¬ ((k : Int) < 0) := by omega
  have HV : Hid (r = binT (parseT s d) s ((k : Int) + 1)) := by rw [Hid, hr, if_neg (by omega), if_neg (by omega), if_neg (by omega), if_neg (by omega), if_neg (by omega), if_neg (by omega), if_neg (by omega), if_pos h0]
  have HC := mkHid fun W => l1Binary_calls s d hs hP ((k : Int) + 1) W (by omega) (by omega)
  rw [← HV.out] at HC
  clear hr hbE hP HV
  subst h0
  go_enter Try.func101, Try.ntmps101
  go_wp2_with fail
  refine (HC.out _).mono ?_
  rintro e1 w1 ⟨kv, rfl, hkv, hb1⟩
  obtain ⟨adk, capk, rfl, -, -, -⟩ := id hkv
  have HKV := mkHid hkv
  obtain ⟨q0, q1, q2, hs1, hbw⟩ := box_after hb1
  have qf := fun i => frz_of_blk ((hb1.block w.heap.size (by rw [Deep.nblk_alloc]; omega)).trans (Deep.blk_alloc_new _ _)) i
  have HBW := mkHid hbw
  obtain ⟨o, ho⟩ : ∃ o, o = r.1.op := ⟨_, rfl⟩
  obtain ⟨m, hm⟩ : ∃ m, m = r.1.num := ⟨_, rfl⟩
  obtain ⟨nx, hx⟩ : ∃ nx, nx = r.2 := ⟨_, rfl⟩
  obtain ⟨z, hz⟩ : ∃ z, z = r.1.kids.length := ⟨_, rfl⟩
  rw [← ho, ← hm, ← hz, ← hx]
  have HOM := mkHid (And.intro ho (And.intro hm (And.intro hz hx)))
  clear ho hm hz hx hkv hb1 hbw
  go_wp2_with fail
  refine bodyPost_ret (v := .tuple #[.agg #[.int .i64 o, .int .i64 m, .slice adk z capk], .int .i64 nx]) (by simp [results, Try.results101, go_sem, q0, q1, q2, qf]) rfl ?_
  obtain ⟨ho, hm, hz, hx⟩ := HOM.out
  rw [ho, hm, hz, hx]
  exact pa_any HBW.out hs1 (by have h := HKV.out; rwa [Deep.nblk_alloc] at h)

set_option maxRecDepth 100000 in
set_option maxHeartbeats 1600000 in
theorem l1Parse_other (s : ByteArray) (d : Nat) (hd : d ≤ 1000) (k b : Nat) (w : World) (hs : s.size ≤ 1099511627776) (hk : k < s.size) (hbE : b = bN s k) (hn : (¬ (97 ≤ b ∧ b ≤ 122) ∧ ¬ (65 ≤ b ∧ b ≤ 90) ∧ ¬ (48 ≤ b ∧ b ≤ 57)) ∧ b ≠ 126 ∧ b ≠ 94 ∧ b ≠ 60 ∧ b ≠ 91 ∧ b ≠ 40) :
    Calls Try.prog 101 #[.string s, .int .i64 (k : Int), .int .i64 ((d + 1 : Nat) : Int)] w (PaRes (parseT s (d + 1) (k : Int)) w) := by
  obtain ⟨r, hr⟩ : ∃ r, r = parseT s (d + 1) (k : Int) := ⟨_, rfl⟩
  rw [← hr]
  rw [parseT_at d hk hbE] at hr
  have hb : (s[k]'hk).toNat = b := (bN_at hk).trans hbE.symm
  have hd1 : decide (((d + 1 : Nat) : Int) < 1) = false := by simp; omega
  have hd2 : ¬ ((d : Int) + 1 < 1) := by omega
  have hk0 : ¬ ((k : Int) < 0) := by omega
  have HV : Hid (r = (nilT, -1)) := by rw [Hid, hr, if_neg (by omega), if_neg (by omega), if_neg (by omega), if_neg (by omega), if_neg (by omega), if_neg (by omega), if_neg (by omega), if_neg (by omega)]
  obtain ⟨hn, h1, h2, h3, h4, h5⟩ := hn
  have e0 : ((b : Int) == 126) = false := by simp; omega
  have e1 : ((b : Int) == 94) = false := by simp; omega
  have e2 : ((b : Int) == 60) = false := by simp; omega
  have e3 : ((b : Int) == 91) = false := by simp; omega
  have e4 : ((b : Int) == 40) = false := by simp; omega
  clear hr hbE
  rcases (by omega : (97 ≤ b ∧ ¬ b ≤ 122) ∨ (¬ 97 ≤ b ∧ 65 ≤ b ∧ ¬ b ≤ 90) ∨ (¬ 97 ≤ b ∧ ¬ 65 ≤ b ∧ 48 ≤ b ∧ ¬ b ≤ 57) ∨ (¬ 97 ≤ b ∧ ¬ 65 ≤ b ∧ ¬ 48 ≤ b)) with ⟨t1, t2⟩ | ⟨t1, t2, t3⟩ | ⟨t1, t2, t3, t4⟩ | ⟨t1, t2, t3⟩
  · have u0 : 65 ≤ b := by omega
    have u1 : ¬ b ≤ 90 := by omega
    have u2 : 48 ≤ b := by omega
    have u3 : ¬ b ≤ 57 := by omega
    clear hn
    go_enter Try.func101, Try.ntmps101
    have hbk : (w.alloc (.cells #[.int .i64 0, .int .i64 0, .slice none 0 0] 30)).heap[w.heap.size]? = some (.cells #[.int .i64 0, .int .i64 0, .slice none 0 0] 30) := Deep.blk_alloc_new _ _
    have y0 := cell_of_blk hbk 0 _ rfl
    have y1 := cell_of_blk hbk 1 _ rfl
    have y2 := cell_of_blk hbk 2 _ rfl
    have yf := fun i => frz_of_blk hbk i
    go_wp2_with fail
    exact bodyPost_ret (v := .tuple #[.agg #[.int .i64 0, .int .i64 0, .slice none 0 0], .int .i64 (-1)]) (by simp [results, Try.results101, go_sem, y0, y1, y2, yf]) rfl (PaRes.nil HV.out (box_below _ _))
  · have u0 : 48 ≤ b := by omega
    have u1 : ¬ b ≤ 57 := by omega
    clear hn
    go_enter Try.func101, Try.ntmps101
    have hbk : (w.alloc (.cells #[.int .i64 0, .int .i64 0, .slice none 0 0] 30)).heap[w.heap.size]? = some (.cells #[.int .i64 0, .int .i64 0, .slice none 0 0] 30) := Deep.blk_alloc_new _ _
    have y0 := cell_of_blk hbk 0 _ rfl
    have y1 := cell_of_blk hbk 1 _ rfl
    have y2 := cell_of_blk hbk 2 _ rfl
    have yf := fun i => frz_of_blk hbk i
    go_wp2_with fail
    exact bodyPost_ret (v := .tuple #[.agg #[.int .i64 0, .int .i64 0, .slice none 0 0], .int .i64 (-1)]) (by simp [results, Try.results101, go_sem, y0, y1, y2, yf]) rfl (PaRes.nil HV.out (box_below _ _))
  · clear hn
    go_enter Try.func101, Try.ntmps101
    have hbk : (w.alloc (.cells #[.int .i64 0, .int .i64 0, .slice none 0 0] 30)).heap[w.heap.size]? = some (.cells #[.int .i64 0, .int .i64 0, .slice none 0 0] 30) := Deep.blk_alloc_new _ _
    have y0 := cell_of_blk hbk 0 _ rfl
    have y1 := cell_of_blk hbk 1 _ rfl
    have y2 := cell_of_blk hbk 2 _ rfl
    have yf := fun i => frz_of_blk hbk i
    go_wp2_with fail
    exact bodyPost_ret (v := .tuple #[.agg #[.int .i64 0, .int .i64 0, .slice none 0 0], .int .i64 (-1)]) (by simp [results, Try.results101, go_sem, y0, y1, y2, yf]) rfl (PaRes.nil HV.out (box_below _ _))
  · clear hn
    go_enter Try.func101, Try.ntmps101
    have hbk : (w.alloc (.cells #[.int .i64 0, .int .i64 0, .slice none 0 0] 30)).heap[w.heap.size]? = some (.cells #[.int .i64 0, .int .i64 0, .slice none 0 0] 30) := Deep.blk_alloc_new _ _
    have y0 := cell_of_blk hbk 0 _ rfl
    have y1 := cell_of_blk hbk 1 _ rfl
    have y2 := cell_of_blk hbk 2 _ rfl
    have yf := fun i => frz_of_blk hbk i
    go_wp2_with fail
    exact bodyPost_ret (v := .tuple #[.agg #[.int .i64 0, .int .i64 0, .slice none 0 0], .int .i64 (-1)]) (by simp [results, Try.results101, go_sem, y0, y1, y2, yf]) rfl (PaRes.nil HV.out (box_below _ _))

/-- the model's parser, down to any depth -/
theorem l1Parse_said (s : ByteArray) (hs : s.size ≤ 1099511627776) : ∀ d, d ≤ 1000 → PaSaid s d
  | 0, _ => l1Parse_zero s
  | d + 1, hd => by
    have ih := l1Parse_said s hs d (by omega)
    have hd' : d ≤ 1000 := by omega
    intro a w h0 h1
    by_cases h : a < 0 ∨ (s.size : Int) ≤ a
    · exact l1Parse_none s d hd' a w hs h
    · obtain ⟨k, rfl⟩ : ∃ k : Nat, a = (k : Int) := ⟨a.toNat, by omega⟩
      have hk : k < s.size := by omega
      obtain ⟨b, hb⟩ : ∃ b, b = bN s k := ⟨_, rfl⟩
      by_cases c1 : 97 ≤ b ∧ b ≤ 122
      · exact l1Parse_var s d hd' k b w hs hk hb c1.1 c1.2
      by_cases c2 : 65 ≤ b ∧ b ≤ 90
      · exact l1Parse_glob s d hd' k b w hs hk hb c2.1 c2.2
      by_cases c3 : 48 ≤ b ∧ b ≤ 57
      · exact l1Parse_num s d hd' k b w hs hk hb c3.1 c3.2
      by_cases c4 : b = 126
      · exact l1Parse_fst s d hd' k b w hs hk hb c4 ih
      by_cases c5 : b = 94
      · exact l1Parse_snd s d hd' k b w hs hk hb c5 ih
      by_cases c6 : b = 60
      · exact l1Parse_pair s d hd' k b w hs hk hb c6 ih
      by_cases c7 : b = 91
      · exact l1Parse_cond s d hd' k b w hs hk hb c7 ih
      by_cases c8 : b = 40
      · exact l1Parse_bin s d hd' k b w hs hk hb c8 ih
      exact l1Parse_other s d hd' k b w hs hk hb ⟨⟨c1, c2, c3⟩, c4, c5, c6, c7, c8⟩
end Go.Proofs.Ytjdlfpdljmohiaa
