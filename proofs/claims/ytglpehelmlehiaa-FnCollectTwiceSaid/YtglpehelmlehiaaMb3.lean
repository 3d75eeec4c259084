/-
  THE MODEL's l1Parse, BY THE BYTE AT THE PLACE.
-/
import Derived.Test.YtglpehelmlehiaaMb2
import Derived.Test.YtglpehelmlehiaaMb1
import Derived.BigQuiet
import Derived.WalkSmall
import Derived.Deep.QuietTactic
import Derived.Laws.IdiomStrings
import Derived.Test.YtglpehelmlehiaaProg
import Derived.Deep.RegionWith
import Derived.Deep.DeepMust
namespace Go.Proofs.Ytglpehelmlehiaa
set_option linter.unusedVariables false
set_option linter.unusedSimpArgs false
open Go.RowKit

theorem pa_one {w w1 : World} {x : Tr} {u n : Int} {kx : Value} {o : Obj} (h1 : Below w.heap.size w w1) (hs1 : w.heap.size + 1 ≤ w1.heap.size)
    (hkx : KidsOn w1 (PN (w.heap.size + 1) w1) x.kids kx) (hix : I64 x.op ∧ I64 x.num) :
    PaRes (.node u 0 [x], n) w (.returned (.tuple #[.agg #[.int .i64 u, .int .i64 0, .slice (some ⟨w1.heap.size + 1, 0, none⟩) 1 1], .int .i64 n]))
      (((((w1.alloc o).alloc (.cells #[.int .i64 x.op, .int .i64 x.num, kx] 32)).setCell ⟨w.heap.size, 0, none⟩ (.int .i64 u)).setCell ⟨w.heap.size, 1, none⟩ (.int .i64 0)).setCell ⟨w.heap.size, 2, none⟩ (.slice (some ⟨w1.heap.size + 1, 0, none⟩) 1 1)) := by
  have hsA : (w1.alloc o).heap.size = w1.heap.size + 1 := by rw [Deep.nblk_alloc]
  have hb : Below w.heap.size w ((w1.alloc o).alloc (.cells #[.int .i64 x.op, .int .i64 x.num, kx] 32)) :=
    h1.trans (((box_below w1 o).trans ((box_below _ _).mono (by omega))).mono (by omega))
  have hF := set3_below hb (.int .i64 u) (.int .i64 0) (.slice (some ⟨w1.heap.size + 1, 0, none⟩) 1 1)
  have hsz : w1.heap.size + 2 ≤ (((((w1.alloc o).alloc (.cells #[.int .i64 x.op, .int .i64 x.num, kx] 32)).setCell ⟨w.heap.size, 0, none⟩ (.int .i64 u)).setCell ⟨w.heap.size, 1, none⟩ (.int .i64 0)).setCell ⟨w.heap.size, 2, none⟩ (.slice (some ⟨w1.heap.size + 1, 0, none⟩) 1 1)).heap.size := by
    have := (set3_below (Below.refl w.heap.size ((w1.alloc o).alloc (.cells #[.int .i64 x.op, .int .i64 x.num, kx] 32))) (.int .i64 u) (.int .i64 0) (.slice (some ⟨w1.heap.size + 1, 0, none⟩) 1 1)).size
    rw [Deep.nblk_alloc, Deep.nblk_alloc] at this
    omega
  have hrow : (((((w1.alloc o).alloc (.cells #[.int .i64 x.op, .int .i64 x.num, kx] 32)).setCell ⟨w.heap.size, 0, none⟩ (.int .i64 u)).setCell ⟨w.heap.size, 1, none⟩ (.int .i64 0)).setCell ⟨w.heap.size, 2, none⟩ (.slice (some ⟨w1.heap.size + 1, 0, none⟩) 1 1)).heap[w1.heap.size + 1]? = some (.cells #[.int .i64 x.op, .int .i64 x.num, kx] 32) := by
    rw [set3_heap _ _ _ _ _ _ (by omega), ← hsA]
    exact Deep.blk_alloc_new _ _
  have hblk : ∀ k, PN (w.heap.size + 1) w1 k → (((((w1.alloc o).alloc (.cells #[.int .i64 x.op, .int .i64 x.num, kx] 32)).setCell ⟨w.heap.size, 0, none⟩ (.int .i64 u)).setCell ⟨w.heap.size, 1, none⟩ (.int .i64 0)).setCell ⟨w.heap.size, 2, none⟩ (.slice (some ⟨w1.heap.size + 1, 0, none⟩) 1 1)).heap[k]? = w1.heap[k]? := by
    intro k hk
    have h1 : w.heap.size + 1 ≤ k := hk.1
    have h2 : k < w1.heap.size := hk.2.1
    rw [set3_heap _ _ _ _ _ _ (by omega), Deep.blk_alloc_lt _ _ _ (by omega), Deep.blk_alloc_lt _ _ _ h2]
  refine ⟨_, rfl, kids1 (W := w1) (S := PN (w.heap.size + 1) w1) (a := .int .i64 x.op) (b := .int .i64 x.num) (c := kx) (trOn_iff.2 ⟨rfl, rfl, hix.1, hix.2, hkx⟩) ?_ ?_ ?_ ?_, hF⟩
  · exact hrow
  · exact fun k hk => hk.go (by omega) (hblk k hk)
  · exact hblk
  · exact ⟨by omega, by omega, _, _, hrow⟩
/-- operands that lie in new memory, in a box -/
theorem pa_row {w w1 : World} {r : Tr × Int} {u n : Int} {ts : List Tr} {kv : Value} (hr : r = (.node u 0 ts, n)) (h1 : Below w.heap.size w w1) (hs1 : w.heap.size + 1 ≤ w1.heap.size) (hk : KidsOn w1 (PN (w.heap.size + 1) w1) ts kv) :
    PaRes r w (.returned (.tuple #[.agg #[.int .i64 u, .int .i64 0, kv], .int .i64 n])) (((w1.setCell ⟨w.heap.size, 0, none⟩ (.int .i64 u)).setCell ⟨w.heap.size, 1, none⟩ (.int .i64 0)).setCell ⟨w.heap.size, 2, none⟩ kv) := by
  subst hr
  have hF := set3_below h1 (.int .i64 u) (.int .i64 0) kv
  refine ⟨kv, rfl, hk.mono (fun k hk => hk.go (by omega) (set3_heap _ _ _ _ _ _ (by have : w.heap.size + 1 ≤ k := hk.1; omega))) (fun k hk => set3_heap _ _ _ _ _ _ (by have : w.heap.size + 1 ≤ k := hk.1; omega)), hF⟩
/-- the same, where a number comes with it -/
theorem pa_any {w w1 : World} {r : Tr × Int} {kv : Value} (h1 : Below w.heap.size w w1) (hs1 : w.heap.size + 1 ≤ w1.heap.size) (hk : KidsOn w1 (PN (w.heap.size + 1) w1) r.1.kids kv) :
    PaRes r w (.returned (.tuple #[.agg #[.int .i64 r.1.op, .int .i64 r.1.num, kv], .int .i64 r.2])) (((w1.setCell ⟨w.heap.size, 0, none⟩ (.int .i64 r.1.op)).setCell ⟨w.heap.size, 1, none⟩ (.int .i64 r.1.num)).setCell ⟨w.heap.size, 2, none⟩ kv) := by
  have hF := set3_below h1 (.int .i64 r.1.op) (.int .i64 r.1.num) kv
  refine ⟨kv, rfl, hk.mono (fun k hk => hk.go (by omega) (set3_heap _ _ _ _ _ _ (by have : w.heap.size + 1 ≤ k := hk.1; omega))) (fun k hk => set3_heap _ _ _ _ _ _ (by have : w.heap.size + 1 ≤ k := hk.1; omega)), hF⟩

set_option maxRecDepth 100000 in
set_option maxHeartbeats 1600000 in
theorem l1Parse_var (s : ByteArray) (d : Nat) (hd : d ≤ 1000) (k b : Nat) (w : World) (hs : s.size ≤ 1099511627776) (hk : k < s.size) (hbE : b = bN s k) (h0 : 97 ≤ b) (h9 : b ≤ 122) :
    Calls Try.prog 129 #[.string s, .int .i64 (k : Int), .int .i64 ((d + 1 : Nat) : Int)] w (PaRes (parseT s (d + 1) (k : Int)) w) := by
  obtain ⟨r, hr⟩ : ∃ r, r = parseT s (d + 1) (k : Int) := ⟨_, rfl⟩
  rw [← hr]
  rw [parseT_at d hk hbE] at hr
  have hb : (s[k]'hk).toNat = b := (bN_at hk).trans hbE.symm
  have hd1 : decide (((d + 1 : Nat) : Int) < 1) = false := by simp; omega
  have hd2 : ¬ ((d : Int) + 1 < 1) := by omega
  have hk0 : ¬ ((k : Int) < 0) := by omega
  obtain ⟨q, hq⟩ : ∃ q, q = b - 97 := ⟨_, rfl⟩
  have hq9 : q ≤ 25 := by omega
  have hw1 : IntKind.u8.wrap ((b : Int) - 97) = (q : Int) := by rw [IntWalk.u8_in _ (by omega)]; omega
  have HV : Hid (r = (.node 1 (q : Int) [], (k : Int) + 1)) := by
    have e : (b : Int) - 97 = (q : Int) := by omega
    rw [Hid, hr, if_pos ⟨h0, h9⟩, e]
  clear hr hq hbE
  go_enter Try.func129, Try.ntmps129
  have hbk : (w.alloc (.cells #[.int .i64 1, .int .i64 (q : Int), .slice none 0 0] 32)).heap[w.heap.size]? = some (.cells #[.int .i64 1, .int .i64 (q : Int), .slice none 0 0] 32) := Deep.blk_alloc_new _ _
  have y0 := cell_of_blk hbk 0 _ rfl
  have y1 := cell_of_blk hbk 1 _ rfl
  have y2 := cell_of_blk hbk 2 _ rfl
  have yf := fun i => frz_of_blk hbk i
  go_wp2_with fail
  exact bodyPost_ret (v := .tuple #[.agg #[.int .i64 1, .int .i64 (q : Int), .slice none 0 0], .int .i64 ((k : Int) + 1)]) (by simp [results, Try.results129, go_sem, y0, y1, y2, yf]) rfl (PaRes.leaf HV.out (box_below _ _))

set_option maxRecDepth 100000 in
set_option maxHeartbeats 1600000 in
theorem l1Parse_glob (s : ByteArray) (d : Nat) (hd : d ≤ 1000) (k b : Nat) (w : World) (hs : s.size ≤ 1099511627776) (hk : k < s.size) (hbE : b = bN s k) (h0 : 65 ≤ b) (h9 : b ≤ 90) :
    Calls Try.prog 129 #[.string s, .int .i64 (k : Int), .int .i64 ((d + 1 : Nat) : Int)] w (PaRes (parseT s (d + 1) (k : Int)) w) := by
  obtain ⟨r, hr⟩ : ∃ r, r = parseT s (d + 1) (k : Int) := ⟨_, rfl⟩
  rw [← hr]
  rw [parseT_at d hk hbE] at hr
  have hb : (s[k]'hk).toNat = b := (bN_at hk).trans hbE.symm
  have hd1 : decide (((d + 1 : Nat) : Int) < 1) = false := by simp; omega
  have hd2 : ¬ ((d : Int) + 1 < 1) := by omega
  have hk0 : ¬ ((k : Int) < 0) := by omega
  have n0 : ¬ 97 ≤ b := by omega
  obtain ⟨q, hq⟩ : ∃ q, q = b - 65 := ⟨_, rfl⟩
  have hq9 : q ≤ 25 := by omega
  have hw1 : IntKind.u8.wrap ((b : Int) - 65) = (q : Int) := by rw [IntWalk.u8_in _ (by omega)]; omega
  have HV : Hid (r = (.node 3 (q : Int) [], (k : Int) + 1)) := by
    have e : (b : Int) - 65 = (q : Int) := by omega
    rw [Hid, hr, if_neg (by omega), if_pos ⟨h0, h9⟩, e]
  clear hr hq hbE
  go_enter Try.func129, Try.ntmps129
  have hbk : (w.alloc (.cells #[.int .i64 3, .int .i64 (q : Int), .slice none 0 0] 32)).heap[w.heap.size]? = some (.cells #[.int .i64 3, .int .i64 (q : Int), .slice none 0 0] 32) := Deep.blk_alloc_new _ _
  have y0 := cell_of_blk hbk 0 _ rfl
  have y1 := cell_of_blk hbk 1 _ rfl
  have y2 := cell_of_blk hbk 2 _ rfl
  have yf := fun i => frz_of_blk hbk i
  go_wp2_with fail
  exact bodyPost_ret (v := .tuple #[.agg #[.int .i64 3, .int .i64 (q : Int), .slice none 0 0], .int .i64 ((k : Int) + 1)]) (by simp [results, Try.results129, go_sem, y0, y1, y2, yf]) rfl (PaRes.leaf HV.out (box_below _ _))

set_option maxRecDepth 100000 in
set_option maxHeartbeats 1600000 in
theorem l1Parse_num (s : ByteArray) (d : Nat) (hd : d ≤ 1000) (k b : Nat) (w : World) (hs : s.size ≤ 1099511627776) (hk : k < s.size) (hbE : b = bN s k) (h0 : 48 ≤ b) (h9 : b ≤ 57) :
    Calls Try.prog 129 #[.string s, .int .i64 (k : Int), .int .i64 ((d + 1 : Nat) : Int)] w (PaRes (parseT s (d + 1) (k : Int)) w) := by
  obtain ⟨r, hr⟩ : ∃ r, r = parseT s (d + 1) (k : Int) := ⟨_, rfl⟩
  rw [← hr]
  rw [parseT_at d hk hbE] at hr
  have hb : (s[k]'hk).toNat = b := (bN_at hk).trans hbE.symm
  have hd1 : decide (((d + 1 : Nat) : Int) < 1) = false := by simp; omega
  have hd2 : ¬ ((d : Int) + 1 < 1) := by omega
  have hk0 : ¬ ((k : Int) < 0) := by omega
  have n0 : ¬ 97 ≤ b := by omega
  have n1 : ¬ 65 ≤ b := by omega
  obtain ⟨qn, hqn⟩ : ∃ q, q = numE s 4 k 0 := ⟨_, rfl⟩
  have HC := mkHid fun W => l1Number_calls s k W (Nat.le_of_lt hk) hs
  rw [← hqn] at HC
  obtain ⟨n, e⟩ := qn
  have HV : Hid (r = (.node 2 (n : Int) [], (e : Int))) := by rw [Hid, hr, if_neg (by omega), if_neg (by omega), if_pos ⟨h0, h9⟩, ← hqn]
  clear hr hbE hqn
  go_enter Try.func129, Try.ntmps129
  go_wp2_with fail
  refine (HC.out _).mono ?_
  rintro e1 w1 ⟨rfl, hb1⟩
  obtain ⟨y0, y1, y2, hs1, hbw⟩ := box_after hb1
  have yf := fun i => frz_of_blk ((hb1.block w.heap.size (by rw [Deep.nblk_alloc]; omega)).trans (Deep.blk_alloc_new _ _)) i
  have HBW := mkHid hbw
  clear hb1 hbw
  simp only []
  go_wp2_with fail
  exact bodyPost_ret (v := .tuple #[.agg #[.int .i64 2, .int .i64 (n : Int), .slice none 0 0], .int .i64 (e : Int)]) (by simp [results, Try.results129, go_sem, y0, y1, y2, yf]) rfl (PaRes.leaf HV.out (set3_below HBW.out _ _ _))

set_option maxRecDepth 100000 in
set_option maxHeartbeats 1600000 in
theorem l1Parse_fst (s : ByteArray) (d : Nat) (hd : d ≤ 1000) (k b : Nat) (w : World) (hs : s.size ≤ 1099511627776) (hk : k < s.size) (hbE : b = bN s k) (h0 : b = 126) (hP : PaSaid s d) :
    Calls Try.prog 129 #[.string s, .int .i64 (k : Int), .int .i64 ((d + 1 : Nat) : Int)] w (PaRes (parseT s (d + 1) (k : Int)) w) := by
  obtain ⟨r, hr⟩ : ∃ r, r = parseT s (d + 1) (k : Int) := ⟨_, rfl⟩
  rw [← hr]
  rw [parseT_at d hk hbE] at hr
  have hb : (s[k]'hk).toNat = b := (bN_at hk).trans hbE.symm
  have hd1 : decide (((d + 1 : Nat) : Int) < 1) = false := by simp; omega
  have hd2 : ¬ ((d : Int) + 1 < 1) := by omega
  have hk0 : ¬ ((k : Int) < 0) := by omega
  have HPB := mkHid fun W => hP ((k : Int) + 1) W (by omega) (by omega)
  have HRG := mkHid (parseT_rng s d ((k : Int) + 1))
  have HV : Hid (r = (.node 6 0 [(parseT s d ((k : Int) + 1)).1], (parseT s d ((k : Int) + 1)).2)) := by rw [Hid, hr, if_neg (by omega), if_neg (by omega), if_neg (by omega), if_pos h0]
  obtain ⟨q, hq⟩ : ∃ q, q = parseT s d ((k : Int) + 1) := ⟨_, rfl⟩
  rw [← hq] at HPB HRG HV
  obtain ⟨x, nx⟩ := q
  have HXI := mkHid HRG.out.i64
  clear hr hbE hq hP HRG
  subst h0
  go_enter Try.func129, Try.ntmps129
  go_wp2_with fail
  refine (HPB.out _).mono ?_
  rintro e1 w1 ⟨kv, rfl, hkv, hb1⟩
  obtain ⟨adk, capk, rfl, -, -, -⟩ := id hkv
  have HKV := mkHid hkv
  obtain ⟨-, -, -, hs1, hbw⟩ := box_after hb1
  have hbx := (hb1.block w.heap.size (by rw [Deep.nblk_alloc]; omega)).trans (Deep.blk_alloc_new _ _)
  have HBW := mkHid hbw
  have HS1 : Hid (w.heap.size + 1 ≤ w1.heap.size) := hs1
  simp only [] at HV ⊢
  obtain ⟨o, ho⟩ : ∃ o, o = x.op := ⟨_, rfl⟩
  obtain ⟨m, hm⟩ : ∃ m, m = x.num := ⟨_, rfl⟩
  obtain ⟨z, hz⟩ : ∃ z, z = x.kids.length := ⟨_, rfl⟩
  rw [← ho, ← hm, ← hz]
  have HOM := mkHid (And.intro ho (And.intro hm hz))
  clear ho hm hz hkv hb1 hbw hs1
  have HQ : Hid (∀ O, ((w1.alloc (.cells #[.int .i64 o, .int .i64 m, .slice adk z capk] 32)).alloc O).heap[w.heap.size]? = some (.cells #[.int .i64 0, .int .i64 0, .slice none 0 0] 32)) := fun O => by
    rw [Deep.blk_alloc_lt _ _ _ (by rw [Deep.nblk_alloc]; have := HS1.out; omega), Deep.blk_alloc_lt _ _ _ HS1.out]
    exact hbx
  have p0 := fun O => cell_of_blk (HQ.out O) 0 _ rfl
  have p1 := fun O => cell_of_blk (HQ.out O) 1 _ rfl
  have p2 := fun O => cell_of_blk (HQ.out O) 2 _ rfl
  have pf := fun O i => frz_of_blk (HQ.out O) i
  clear hbx
  have a0' := box_cell w1 #[.int .i64 o, .int .i64 m, .slice adk z capk] 32 0 _ rfl
  have a1' := box_cell w1 #[.int .i64 o, .int .i64 m, .slice adk z capk] 32 1 _ rfl
  have a2' := box_cell w1 #[.int .i64 o, .int .i64 m, .slice adk z capk] 32 2 _ rfl
  go_wp2_with fail
  obtain ⟨ho, hm, hz⟩ := HOM.out
  refine bodyPost_ret (v := .tuple #[.agg #[.int .i64 6, .int .i64 0, .slice (some ⟨w1.heap.size + 1, 0, none⟩) 1 1], .int .i64 nx]) (by simp [results, Try.results129, go_sem, p0, p1, p2, pf]) rfl ?_
  rw [HV.out, ho, hm, hz]
  exact pa_one HBW.out HS1.out (by have h := HKV.out; rwa [Deep.nblk_alloc] at h) HXI.out

set_option maxRecDepth 100000 in
set_option maxHeartbeats 1600000 in
theorem l1Parse_snd (s : ByteArray) (d : Nat) (hd : d ≤ 1000) (k b : Nat) (w : World) (hs : s.size ≤ 1099511627776) (hk : k < s.size) (hbE : b = bN s k) (h0 : b = 94) (hP : PaSaid s d) :
    Calls Try.prog 129 #[.string s, .int .i64 (k : Int), .int .i64 ((d + 1 : Nat) : Int)] w (PaRes (parseT s (d + 1) (k : Int)) w) := by
  obtain ⟨r, hr⟩ : ∃ r, r = parseT s (d + 1) (k : Int) := ⟨_, rfl⟩
  rw [← hr]
  rw [parseT_at d hk hbE] at hr
  have hb : (s[k]'hk).toNat = b := (bN_at hk).trans hbE.symm
  have hd1 : decide (((d + 1 : Nat) : Int) < 1) = false := by simp; omega
  have hd2 : ¬ ((d : Int) + 1 < 1) := by omega
  have hk0 : ¬ ((k : Int) < 0) := by omega
  have HPB := mkHid fun W => hP ((k : Int) + 1) W (by omega) (by omega)
  have HRG := mkHid (parseT_rng s d ((k : Int) + 1))
  have HV : Hid (r = (.node 7 0 [(parseT s d ((k : Int) + 1)).1], (parseT s d ((k : Int) + 1)).2)) := by rw [Hid, hr, if_neg (by omega), if_neg (by omega), if_neg (by omega), if_neg (by omega), if_pos h0]
  obtain ⟨q, hq⟩ : ∃ q, q = parseT s d ((k : Int) + 1) := ⟨_, rfl⟩
  rw [← hq] at HPB HRG HV
  obtain ⟨x, nx⟩ := q
  have HXI := mkHid HRG.out.i64
  clear hr hbE hq hP HRG
  subst h0
  go_enter Try.func129, Try.ntmps129
  go_wp2_with fail
  refine (HPB.out _).mono ?_
  rintro e1 w1 ⟨kv, rfl, hkv, hb1⟩
  obtain ⟨adk, capk, rfl, -, -, -⟩ := id hkv
  have HKV := mkHid hkv
  obtain ⟨-, -, -, hs1, hbw⟩ := box_after hb1
  have hbx := (hb1.block w.heap.size (by rw [Deep.nblk_alloc]; omega)).trans (Deep.blk_alloc_new _ _)
  have HBW := mkHid hbw
  have HS1 : Hid (w.heap.size + 1 ≤ w1.heap.size) := hs1
  simp only [] at HV ⊢
  obtain ⟨o, ho⟩ : ∃ o, o = x.op := ⟨_, rfl⟩
  obtain ⟨m, hm⟩ : ∃ m, m = x.num := ⟨_, rfl⟩
  obtain ⟨z, hz⟩ : ∃ z, z = x.kids.length := ⟨_, rfl⟩
  rw [← ho, ← hm, ← hz]
  have HOM := mkHid (And.intro ho (And.intro hm hz))
  clear ho hm hz hkv hb1 hbw hs1
  have HQ : Hid (∀ O, ((w1.alloc (.cells #[.int .i64 o, .int .i64 m, .slice adk z capk] 32)).alloc O).heap[w.heap.size]? = some (.cells #[.int .i64 0, .int .i64 0, .slice none 0 0] 32)) := fun O => by
    rw [Deep.blk_alloc_lt _ _ _ (by rw [Deep.nblk_alloc]; have := HS1.out; omega), Deep.blk_alloc_lt _ _ _ HS1.out]
    exact hbx
  have p0 := fun O => cell_of_blk (HQ.out O) 0 _ rfl
  have p1 := fun O => cell_of_blk (HQ.out O) 1 _ rfl
  have p2 := fun O => cell_of_blk (HQ.out O) 2 _ rfl
  have pf := fun O i => frz_of_blk (HQ.out O) i
  clear hbx
  have a0' := box_cell w1 #[.int .i64 o, .int .i64 m, .slice adk z capk] 32 0 _ rfl
  have a1' := box_cell w1 #[.int .i64 o, .int .i64 m, .slice adk z capk] 32 1 _ rfl
  have a2' := box_cell w1 #[.int .i64 o, .int .i64 m, .slice adk z capk] 32 2 _ rfl
  go_wp2_with fail
  obtain ⟨ho, hm, hz⟩ := HOM.out
  refine bodyPost_ret (v := .tuple #[.agg #[.int .i64 7, .int .i64 0, .slice (some ⟨w1.heap.size + 1, 0, none⟩) 1 1], .int .i64 nx]) (by simp [results, Try.results129, go_sem, p0, p1, p2, pf]) rfl ?_
  rw [HV.out, ho, hm, hz]
  exact pa_one HBW.out HS1.out (by have h := HKV.out; rwa [Deep.nblk_alloc] at h) HXI.out

set_option maxRecDepth 100000 in
set_option maxHeartbeats 1600000 in
theorem l1Parse_pair (s : ByteArray) (d : Nat) (hd : d ≤ 1000) (k b : Nat) (w : World) (hs : s.size ≤ 1099511627776) (hk : k < s.size) (hbE : b = bN s k) (h0 : b = 60) (hP : PaSaid s d) :
    Calls Try.prog 129 #[.string s, .int .i64 (k : Int), .int .i64 ((d + 1 : Nat) : Int)] w (PaRes (parseT s (d + 1) (k : Int)) w) := by
  obtain ⟨r, hr⟩ : ∃ r, r = parseT s (d + 1) (k : Int) := ⟨_, rfl⟩
  rw [← hr]
  rw [parseT_at d hk hbE] at hr
  have hb : (s[k]'hk).toNat = b := (bN_at hk).trans hbE.symm
  have hd1 : decide (((d + 1 : Nat) : Int) < 1) = false := by simp; omega
  have hd2 : ¬ ((d : Int) + 1 < 1) := by omega
  have hk0 : ¬ ((k : Int) < 0) := by omega
  have HV : Hid (r = (.node 5 0 (restT (parseT s d) s [44, 62] ((k : Int) + 1) []).1, (restT (parseT s d) s [44, 62] ((k : Int) + 1) []).2)) := by rw [Hid, hr, if_neg (by omega), if_neg (by omega), if_neg (by omega), if_neg (by omega), if_neg (by omega), if_pos h0]
  have HC := mkHid fun (bl : Nat) (W : World) hcells => l1Rest_calls s d hs hP [44, 62] (by decide) (by decide) ((k : Int) + 1) bl 2 W (by omega) (by omega) hcells (by decide) (by unfold maxLen; decide)
  obtain ⟨q, hq⟩ : ∃ q, q = restT (parseT s d) s [44, 62] ((k : Int) + 1) [] := ⟨_, rfl⟩
  rw [← hq] at HV HC
  obtain ⟨ts, nx⟩ := q
  clear hr hbE hq hP
  subst h0
  go_enter Try.func129, Try.ntmps129
  go_wp2_with fail
  refine (HC.out (w.heap.size + 1) _ ?_).mono ?_
  · intro i hi
    rcases (by simp at hi; omega : i = 0 ∨ i = 1) with rfl | rfl
    · have h := box_cell (w.alloc (.cells #[.int .i64 0, .int .i64 0, .slice none 0 0] 32)) #[.int .u8 44, .int .u8 62] 5 0 _ rfl; rw [Deep.nblk_alloc] at h; exact h
    · have h := box_cell (w.alloc (.cells #[.int .i64 0, .int .i64 0, .slice none 0 0] 32)) #[.int .u8 44, .int .u8 62] 5 1 _ rfl; rw [Deep.nblk_alloc] at h; exact h
  rintro e1 w1 ⟨kv, rfl, hkv, hb1⟩
  obtain ⟨adk, capk, rfl, -, -, -⟩ := id hkv
  have hb2 := hb1
  rw [Deep.nblk_alloc, Deep.nblk_alloc] at hb2 hkv
  have hs1 : w.heap.size + 1 ≤ w1.heap.size := by have := hb1.size; rw [Deep.nblk_alloc, Deep.nblk_alloc] at this; omega
  have HBW : Hid (Below w.heap.size w w1) := ((box_below _ _).trans ((box_below _ _).mono (by rw [Deep.nblk_alloc]; omega))).trans (hb2.mono (by omega))
  have d0 : w1.heap[w.heap.size]? = some (.cells #[.int .i64 0, .int .i64 0, .slice none 0 0] 32) := (hb2.block _ (by omega)).trans ((Deep.blk_alloc_lt _ _ _ (by rw [Deep.nblk_alloc]; omega)).trans (Deep.blk_alloc_new _ _))
  have HKV : Hid (KidsOn w1 (PN (w.heap.size + 1) w1) ts (.slice adk ts.length capk)) := hkv.mono (fun k hk => hk.go (by omega) rfl) (fun _ _ => rfl)
  have q0 := cell_of_blk d0 0 _ rfl
  have q1 := cell_of_blk d0 1 _ rfl
  have q2 := cell_of_blk d0 2 _ rfl
  have qf := fun i => frz_of_blk d0 i
  obtain ⟨z, hz⟩ : ∃ z, z = ts.length := ⟨_, rfl⟩
  rw [← hz] at HKV ⊢
  simp only [] at HV ⊢
  clear hkv hb1 hb2 d0 hz
  go_wp2_with fail
  exact bodyPost_ret (v := .tuple #[.agg #[.int .i64 5, .int .i64 0, .slice adk z capk], .int .i64 nx]) (by simp [results, Try.results129, go_sem, q0, q1, q2, qf]) rfl (pa_row HV.out HBW.out hs1 HKV.out)

set_option maxRecDepth 100000 in
set_option maxHeartbeats 1600000 in
theorem l1Parse_cond (s : ByteArray) (d : Nat) (hd : d ≤ 1000) (k b : Nat) (w : World) (hs : s.size ≤ 1099511627776) (hk : k < s.size) (hbE : b = bN s k) (h0 : b = 91) (hP : PaSaid s d) :
    Calls Try.prog 129 #[.string s, .int .i64 (k : Int), .int .i64 ((d + 1 : Nat) : Int)] w (PaRes (parseT s (d + 1) (k : Int)) w) := by
  obtain ⟨r, hr⟩ : ∃ r, r = parseT s (d + 1) (k : Int) := ⟨_, rfl⟩
  rw [← hr]
  rw [parseT_at d hk hbE] at hr
  have hb : (s[k]'hk).toNat = b := (bN_at hk).trans hbE.symm
  have hd1 : decide (((d + 1 : Nat) : Int) < 1) = false := by simp; omega
  have hd2 : ¬ ((d : Int) + 1 < 1) := by omega
  have hk0 : ¬ ((k : Int) < 0) := by omega
  have HV : Hid (r = (.node 10 0 (restT (parseT s d) s [63, 58, 93] ((k : Int) + 1) []).1, (restT (parseT s d) s [63, 58, 93] ((k : Int) + 1) []).2)) := by rw [Hid, hr, if_neg (by omega), if_neg (by omega), if_neg (by omega), if_neg (by omega), if_neg (by omega), if_neg (by omega), if_pos h0]
  have HC := mkHid fun (bl : Nat) (W : World) hcells => l1Rest_calls s d hs hP [63, 58, 93] (by decide) (by decide) ((k : Int) + 1) bl 3 W (by omega) (by omega) hcells (by decide) (by unfold maxLen; decide)
  obtain ⟨q, hq⟩ : ∃ q, q = restT (parseT s d) s [63, 58, 93] ((k : Int) + 1) [] := ⟨_, rfl⟩
  rw [← hq] at HV HC
  obtain ⟨ts, nx⟩ := q
  clear hr hbE hq hP
  subst h0
  go_enter Try.func129, Try.ntmps129
  go_wp2_with fail
  refine (HC.out (w.heap.size + 1) _ ?_).mono ?_
  · intro i hi
    rcases (by simp at hi; omega : i = 0 ∨ i = 1 ∨ i = 2) with rfl | rfl | rfl
    · have h := box_cell (w.alloc (.cells #[.int .i64 0, .int .i64 0, .slice none 0 0] 32)) #[.int .u8 63, .int .u8 58, .int .u8 93] 5 0 _ rfl; rw [Deep.nblk_alloc] at h; exact h
    · have h := box_cell (w.alloc (.cells #[.int .i64 0, .int .i64 0, .slice none 0 0] 32)) #[.int .u8 63, .int .u8 58, .int .u8 93] 5 1 _ rfl; rw [Deep.nblk_alloc] at h; exact h
    · have h := box_cell (w.alloc (.cells #[.int .i64 0, .int .i64 0, .slice none 0 0] 32)) #[.int .u8 63, .int .u8 58, .int .u8 93] 5 2 _ rfl; rw [Deep.nblk_alloc] at h; exact h
  rintro e1 w1 ⟨kv, rfl, hkv, hb1⟩
  obtain ⟨adk, capk, rfl, -, -, -⟩ := id hkv
  have hb2 := hb1
  rw [Deep.nblk_alloc, Deep.nblk_alloc] at hb2 hkv
  have hs1 : w.heap.size + 1 ≤ w1.heap.size := by have := hb1.size; rw [Deep.nblk_alloc, Deep.nblk_alloc] at this; omega
  have HBW : Hid (Below w.heap.size w w1) := ((box_below _ _).trans ((box_below _ _).mono (by rw [Deep.nblk_alloc]; omega))).trans (hb2.mono (by omega))
  have d0 : w1.heap[w.heap.size]? = some (.cells #[.int .i64 0, .int .i64 0, .slice none 0 0] 32) := (hb2.block _ (by omega)).trans ((Deep.blk_alloc_lt _ _ _ (by rw [Deep.nblk_alloc]; omega)).trans (Deep.blk_alloc_new _ _))
  have HKV : Hid (KidsOn w1 (PN (w.heap.size + 1) w1) ts (.slice adk ts.length capk)) := hkv.mono (fun k hk => hk.go (by omega) rfl) (fun _ _ => rfl)
  have q0 := cell_of_blk d0 0 _ rfl
  have q1 := cell_of_blk d0 1 _ rfl
  have q2 := cell_of_blk d0 2 _ rfl
  have qf := fun i => frz_of_blk d0 i
  obtain ⟨z, hz⟩ : ∃ z, z = ts.length := ⟨_, rfl⟩
  rw [← hz] at HKV ⊢
  simp only [] at HV ⊢
  clear hkv hb1 hb2 d0 hz
  go_wp2_with fail
  exact bodyPost_ret (v := .tuple #[.agg #[.int .i64 10, .int .i64 0, .slice adk z capk], .int .i64 nx]) (by simp [results, Try.results129, go_sem, q0, q1, q2, qf]) rfl (pa_row HV.out HBW.out hs1 HKV.out)

set_option maxRecDepth 100000 in
set_option maxHeartbeats 1600000 in
theorem l1Parse_bin (s : ByteArray) (d : Nat) (hd : d ≤ 1000) (k b : Nat) (w : World) (hs : s.size ≤ 1099511627776) (hk : k < s.size) (hbE : b = bN s k) (h0 : b = 40) (hP : PaSaid s d) :
    Calls Try.prog 129 #[.string s, .int .i64 (k : Int), .int .i64 ((d + 1 : Nat) : Int)] w (PaRes (parseT s (d + 1) (k : Int)) w) := by
  obtain ⟨r, hr⟩ : ∃ r, r = parseT s (d + 1) (k : Int) := ⟨_, rfl⟩
  rw [← hr]
  rw [parseT_at d hk hbE] at hr
  have hb : (s[k]'hk).toNat = b := (bN_at hk).trans hbE.symm
  have hd1 : decide (((d + 1 : Nat) : Int) < 1) = false := by simp; omega
  have hd2 : ¬ ((d : Int) + 1 < 1) := by omega
  have hk0 : ¬ ((k : Int) < 0) := by omega
  have HV : Hid (r = binT (parseT s d) s ((k : Int) + 1)) := by rw [Hid, hr, if_neg (by omega), if_neg (by omega), if_neg (by omega), if_neg (by omega), if_neg (by omega), if_neg (by omega), if_neg (by omega), if_pos h0]
  have HC := mkHid fun W => l1Binary_calls s d hs hP ((k : Int) + 1) W (by omega) (by omega)
  rw [← HV.out] at HC
  clear hr hbE hP HV
  subst h0
  go_enter Try.func129, Try.ntmps129
  go_wp2_with fail
  refine (HC.out _).mono ?_
  rintro e1 w1 ⟨kv, rfl, hkv, hb1⟩
  obtain ⟨adk, capk, rfl, -, -, -⟩ := id hkv
  have HKV := mkHid hkv
  obtain ⟨q0, q1, q2, hs1, hbw⟩ := box_after hb1
  have qf := fun i => frz_of_blk ((hb1.block w.heap.size (by rw [Deep.nblk_alloc]; omega)).trans (Deep.blk_alloc_new _ _)) i
  have HBW := mkHid hbw
  obtain ⟨o, ho⟩ : ∃ o, o = r.1.op := ⟨_, rfl⟩
  obtain ⟨m, hm⟩ : ∃ m, m = r.1.num := ⟨_, rfl⟩
  obtain ⟨nx, hx⟩ : ∃ nx, nx = r.2 := ⟨_, rfl⟩
  obtain ⟨z, hz⟩ : ∃ z, z = r.1.kids.length := ⟨_, rfl⟩
  rw [← ho, ← hm, ← hz, ← hx]
  have HOM := mkHid (And.intro ho (And.intro hm (And.intro hz hx)))
  clear ho hm hz hx hkv hb1 hbw
  go_wp2_with fail
  refine bodyPost_ret (v := .tuple #[.agg #[.int .i64 o, .int .i64 m, .slice adk z capk], .int .i64 nx]) (by simp [results, Try.results129, go_sem, q0, q1, q2, qf]) rfl ?_
  obtain ⟨ho, hm, hz, hx⟩ := HOM.out
  rw [ho, hm, hz, hx]
  exact pa_any HBW.out hs1 (by have h := HKV.out; rwa [Deep.nblk_alloc] at h)

set_option maxRecDepth 100000 in
set_option maxHeartbeats 1600000 in
theorem l1Parse_other (s : ByteArray) (d : Nat) (hd : d ≤ 1000) (k b : Nat) (w : World) (hs : s.size ≤ 1099511627776) (hk : k < s.size) (hbE : b = bN s k) (hn : (¬ (97 ≤ b ∧ b ≤ 122) ∧ ¬ (65 ≤ b ∧ b ≤ 90) ∧ ¬ (48 ≤ b ∧ b ≤ 57)) ∧ b ≠ 126 ∧ b ≠ 94 ∧ b ≠ 60 ∧ b ≠ 91 ∧ b ≠ 40) :
    Calls Try.prog 129 #[.string s, .int .i64 (k : Int), .int .i64 ((d + 1 : Nat) : Int)] w (PaRes (parseT s (d + 1) (k : Int)) w) := by
  obtain ⟨r, hr⟩ : ∃ r, r = parseT s (d + 1) (k : Int) := ⟨_, rfl⟩
  rw [← hr]
  rw [parseT_at d hk hbE] at hr
  have hb : (s[k]'hk).toNat = b := (bN_at hk).trans hbE.symm
  have hd1 : decide (((d + 1 : Nat) : Int) < 1) = false := by simp; omega
  have hd2 : ¬ ((d : Int) + 1 < 1) := by omega
  have hk0 : ¬ ((k : Int) < 0) := by omega
  have HV : Hid (r = (nilT, -1)) := by rw [Hid, hr, if_neg (by omega), if_neg (by omega), if_neg (by omega), if_neg (by omega), if_neg (by omega), if_neg (by omega), if_neg (by omega), if_neg (by omega)]
  obtain ⟨hn, h1, h2, h3, h4, h5⟩ := hn
  have e0 : ((b : Int) == 126) = false := by simp; omega
  have e1 : ((b : Int) == 94) = false := by simp; omega
  have e2 : ((b : Int) == 60) = false := by simp; omega
  have e3 : ((b : Int) == 91) = false := by simp; omega
  have e4 : ((b : Int) == 40) = false := by simp; omega
  clear hr hbE
  rcases (by omega : (97 ≤ b ∧ ¬ b ≤ 122) ∨ (¬ 97 ≤ b ∧ 65 ≤ b ∧ ¬ b ≤ 90) ∨ (¬ 97 ≤ b ∧ ¬ 65 ≤ b ∧ 48 ≤ b ∧ ¬ b ≤ 57) ∨ (¬ 97 ≤ b ∧ ¬ 65 ≤ b ∧ ¬ 48 ≤ b)) with ⟨t1, t2⟩ | ⟨t1, t2, t3⟩ | ⟨t1, t2, t3, t4⟩ | ⟨t1, t2, t3⟩
  · have u0 : 65 ≤ b := by omega
    have u1 : ¬ b ≤ 90 := by omega
    have u2 : 48 ≤ b := by omega
    have u3 : ¬ b ≤ 57 := by omega
    clear hn
    go_enter Try.func129, Try.ntmps129
    have hbk : (w.alloc (.cells #[.int .i64 0, .int .i64 0, .slice none 0 0] 32)).heap[w.heap.size]? = some (.cells #[.int .i64 0, .int .i64 0, .slice none 0 0] 32) := Deep.blk_alloc_new _ _
    have y0 := cell_of_blk hbk 0 _ rfl
    have y1 := cell_of_blk hbk 1 _ rfl
    have y2 := cell_of_blk hbk 2 _ rfl
    have yf := fun i => frz_of_blk hbk i
    go_wp2_with fail
    exact bodyPost_ret (v := .tuple #[.agg #[.int .i64 0, .int .i64 0, .slice none 0 0], .int .i64 (-1)]) (by simp [results, Try.results129, go_sem, y0, y1, y2, yf]) rfl (PaRes.nil HV.out (box_below _ _))
  · have u0 : 48 ≤ b := by omega
    have u1 : ¬ b ≤ 57 := by omega
    clear hn
    go_enter Try.func129, Try.ntmps129
    have hbk : (w.alloc (.cells #[.int .i64 0, .int .i64 0, .slice none 0 0] 32)).heap[w.heap.size]? = some (.cells #[.int .i64 0, .int .i64 0, .slice none 0 0] 32) := Deep.blk_alloc_new _ _
    have y0 := cell_of_blk hbk 0 _ rfl
    have y1 := cell_of_blk hbk 1 _ rfl
    have y2 := cell_of_blk hbk 2 _ rfl
    have yf := fun i => frz_of_blk hbk i
    go_wp2_with fail
    exact bodyPost_ret (v := .tuple #[.agg #[.int .i64 0, .int .i64 0, .slice none 0 0], .int .i64 (-1)]) (by simp [results, Try.results129, go_sem, y0, y1, y2, yf]) rfl (PaRes.nil HV.out (box_below _ _))
  · clear hn
    go_enter Try.func129, Try.ntmps129
    have hbk : (w.alloc (.cells #[.int .i64 0, .int .i64 0, .slice none 0 0] 32)).heap[w.heap.size]? = some (.cells #[.int .i64 0, .int .i64 0, .slice none 0 0] 32) := Deep.blk_alloc_new _ _
    have y0 := cell_of_blk hbk 0 _ rfl
    have y1 := cell_of_blk hbk 1 _ rfl
    have y2 := cell_of_blk hbk 2 _ rfl
    have yf := fun i => frz_of_blk hbk i
    go_wp2_with fail
    exact bodyPost_ret (v := .tuple #[.agg #[.int .i64 0, .int .i64 0, .slice none 0 0], .int .i64 (-1)]) (by simp [results, Try.results129, go_sem, y0, y1, y2, yf]) rfl (PaRes.nil HV.out (box_below _ _))
  · clear hn
    go_enter Try.func129, Try.ntmps129
    have hbk : (w.alloc (.cells #[.int .i64 0, .int .i64 0, .slice none 0 0] 32)).heap[w.heap.size]? = some (.cells #[.int .i64 0, .int .i64 0, .slice none 0 0] 32) := Deep.blk_alloc_new _ _
    have y0 := cell_of_blk hbk 0 _ rfl
    have y1 := cell_of_blk hbk 1 _ rfl
    have y2 := cell_of_blk hbk 2 _ rfl
    have yf := fun i => frz_of_blk hbk i
    go_wp2_with fail
    exact bodyPost_ret (v := .tuple #[.agg #[.int .i64 0, .int .i64 0, .slice none 0 0], .int .i64 (-1)]) (by simp [results, Try.results129, go_sem, y0, y1, y2, yf]) rfl (PaRes.nil HV.out (box_below _ _))

/-- the model's parser, down to any depth -/
theorem l1Parse_said (s : ByteArray) (hs : s.size ≤ 1099511627776) : ∀ d, d ≤ 1000 → PaSaid s d
  | 0, _ => l1Parse_zero s
  | d + 1, hd => by
    have ih := l1Parse_said s hs d (by omega)
    have hd' : d ≤ 1000 := by omega
    intro a w h0 h1
    by_cases h : a < 0 ∨ (s.size : Int) ≤ a
    · exact l1Parse_none s d hd' a w hs h
    · obtain ⟨k, rfl⟩ : ∃ k : Nat, a = (k : Int) := ⟨a.toNat, by omega⟩
      have hk : k < s.size := by omega
      obtain ⟨b, hb⟩ : ∃ b, b = bN s k := ⟨_, rfl⟩
      by_cases c1 : 97 ≤ b ∧ b ≤ 122
      · exact l1Parse_var s d hd' k b w hs hk hb c1.1 c1.2
      by_cases c2 : 65 ≤ b ∧ b ≤ 90
      · exact l1Parse_glob s d hd' k b w hs hk hb c2.1 c2.2
      by_cases c3 : 48 ≤ b ∧ b ≤ 57
      · exact l1Parse_num s d hd' k b w hs hk hb c3.1 c3.2
      by_cases c4 : b = 126
      · exact l1Parse_fst s d hd' k b w hs hk hb c4 ih
      by_cases c5 : b = 94
      · exact l1Parse_snd s d hd' k b w hs hk hb c5 ih
      by_cases c6 : b = 60
      · exact l1Parse_pair s d hd' k b w hs hk hb c6 ih
      by_cases c7 : b = 91
      · exact l1Parse_cond s d hd' k b w hs hk hb c7 ih
      by_cases c8 : b = 40
      · exact l1Parse_bin s d hd' k b w hs hk hb c8 ih
      exact l1Parse_other s d hd' k b w hs hk hb ⟨⟨c1, c2, c3⟩, c4, c5, c6, c7, c8⟩
end Go.Proofs.Ytglpehelmlehiaa
/-
  THE MODEL's TEXTS: l1Letter, l16Dec, l1Text.
-/
namespace Go.Proofs.Ytglpehelmlehiaa
set_option linter.unusedVariables false
set_option linter.unusedSimpArgs false
open Go.RowKit

theorem ret_str {a b : ByteArray} (h : a = b) : Ending.returned (.string a) = .returned (.string b) := by rw [h]
/-- a byte -/
def byt (z : Nat) : UInt8 := UInt8.ofNat z
theorem byt_nat {z : Nat} (h : z < 256) : ((byt z).toNat : Int) = (z : Int) := by unfold byt; simp; omega
/-- 'string([]byte{b})' -/
theorem conv1 (z : Nat) (h : z < 256) (W : World) : (convert 22 9 (.slice (some ⟨W.heap.size, 0, none⟩) 1 1)).run Try.prog (W.alloc (.cells #[.int .u8 (z : Int)] 5)) = .ok (.string ⟨#[byt z]⟩) (W.alloc (.cells #[.int .u8 (z : Int)] 5)) := by
  have h2 := run_convert_bytes_back (P := Try.prog) (W.alloc (.cells #[.int .u8 (z : Int)] 5)) 22 9 5 ⟨W.heap.size, 0, none⟩ 1 [byt z] Try.underlying22 Try.underlying5 Try.underlying9 fun j hj => by
    have hj0 : j = 0 := by simpa using hj
    subst hj0
    rw [WideShapes.add_plain]
    have := box_cell W #[.int .u8 (z : Int)] 5 0 _ rfl
    rw [this]
    simp only [List.getElem_cons_zero]
    rw [byt_nat h]
    rfl
  exact h2

set_option maxRecDepth 100000 in
set_option maxHeartbeats 400000 in
theorem l1Letter_calls (first n : Nat) (w : World) (h1 : n ≤ 25) (hf2 : first ≤ 97) :
    Calls Try.prog 134 #[.int .u8 (first : Int), .int .i64 (n : Int)] w fun e w' => e = .returned (.string ⟨#[byt (first + n)]⟩) ∧ Below w.heap.size w w' := by
  have hcv := conv1 (first + n) (by omega)
  obtain ⟨z, hz⟩ : ∃ z, z = first + n := ⟨_, rfl⟩
  rw [← hz] at hcv ⊢
  have hw1 : IntKind.u8.wrap (n : Int) = (n : Int) := IntWalk.u8_in _ (by omega)
  have hw2 : IntKind.u8.wrap ((first : Int) + (n : Int)) = (z : Int) := by rw [IntWalk.u8_in _ (by omega)]; omega
  clear hz
  go_enter Try.func134, Try.ntmps134
  go_wp2_with fail
  go_ret
  exact ⟨rfl, box_below _ _⟩

/-- a number in decimal -/
def decT (m : Nat) : List UInt8 := if m < 10 then [byt (48 + m)] else decT (m / 10) ++ [byt (48 + m % 10)]
theorem decT_one {m : Nat} (h : m < 10) : decT m = [byt (48 + m)] := by rw [decT, if_pos h]
theorem decT_more {m : Nat} (h : ¬ m < 10) : decT m = decT (m / 10) ++ [byt (48 + m % 10)] := by rw [decT, if_neg h]

set_option maxRecDepth 100000 in
set_option maxHeartbeats 800000 in
theorem l16Dec_calls (n : Nat) (w : World) (hn : n ≤ 999) :
    Calls Try.prog 135 #[.int .i64 (n : Int)] w fun e w' => e = .returned (.string ⟨(decT n).toArray⟩) ∧ Below w.heap.size w w' := by
  have hneg : ¬ ((n : Int) < -9223372036854775807) := by omega
  have hneg2 : ¬ ((n : Int) < 0) := by omega
  go_enter Try.func135, Try.ntmps135
  go_wp2_with fail
  go_loopw [0, 3] (fun nv ov wr => ∃ (m : Nat) (B : ByteArray) (ds : List UInt8), nv = .int .i64 (m : Int) ∧ ov = .string B ∧ Hid (B = ⟨ds.toArray⟩) ∧ decT n = decT m ++ ds ∧ B.size + m ≤ n ∧ Below w.heap.size w wr) (fun nv _ _ => (intOf nv).toNat)
  case atStart => exact ⟨n, ⟨#[]⟩, [], rfl, rfl, rfl, by simp, by simp [ByteArray.size], Below.refl _ _⟩
  case round =>
    obtain ⟨m, B, ds, rfl, rfl, HBd, hdec, hsz, hb⟩ := hrel
    have HD := mkHid hdec
    have HB := mkHid hb
    have HSZ := mkHid hsz
    have hB : B.size ≤ 999 := by omega
    clear hdec hb
    by_cases h10 : m < 10
    · have h9 : ¬ ((9 : Int) < (m : Int)) := by omega
      have hcv := conv1 (48 + m) (by omega)
      obtain ⟨z, hz⟩ : ∃ z, z = 48 + m := ⟨_, rfl⟩
      rw [← hz] at hcv
      have hw2 : IntKind.u8.wrap (48 + (m : Int)) = (z : Int) := by rw [IntWalk.u8_in _ (by omega)]; omega
      have HV : Hid ((⟨#[byt z]⟩ : ByteArray) ++ B = ⟨(decT n).toArray⟩) := by
        rw [Hid, HBd.out, HD.out, decT_one h10, ByteArray.mk_append_mk, hz]
      clear hz hsz
      go_wp2_with fail
      go_ret
      exact ⟨ret_str HV.out, HB.out.trans ((box_below _ _).mono HB.out.size)⟩
    · have h9 : (9 : Int) < (m : Int) := by omega
      have hcv := conv1 (48 + m % 10) (by omega)
      obtain ⟨z, hz⟩ : ∃ z, z = 48 + m % 10 := ⟨_, rfl⟩
      obtain ⟨q, hq⟩ : ∃ q, q = m / 10 := ⟨_, rfl⟩
      rw [← hz] at hcv
      have hw2 : IntKind.u8.wrap (48 + (m : Int) % 10) = (z : Int) := by rw [IntWalk.u8_in _ (by omega)]; omega
      have hmq : (m : Int) / 10 = (q : Int) := by omega
      have HV : Hid ((⟨#[byt z]⟩ : ByteArray) ++ B = ⟨(byt z :: ds).toArray⟩) := by
        rw [Hid, HBd.out, ByteArray.mk_append_mk]
        simp
      have HD2 : Hid (decT n = decT q ++ (byt z :: ds)) := by rw [Hid, HD.out, decT_more h10, hq, hz]; simp
      have hs2 : 1 + B.size + q ≤ n := by omega
      have hqm : q < m := by omega
      clear hz hsz hq
      go_wp2_with fail
      refine ⟨⟨q, _, byt z :: ds, rfl, rfl, HV.out, HD2.out, ?_, HB.out.trans ((box_below _ _).mono HB.out.size)⟩, by simp [intOf]; omega⟩
      rw [ByteArray.size_append]
      have e : (⟨#[byt z]⟩ : ByteArray).size = 1 := rfl
      rw [e]
      omega
theorem decT_len (n : Nat) (h : n ≤ 999) : (decT n).length ≤ 3 := by
  by_cases h1 : n < 10
  · rw [decT_one h1]; simp
  rw [decT_more h1]
  by_cases h2 : n / 10 < 10
  · rw [decT_one h2]; simp
  rw [decT_more h2, decT_one (by omega)]
  simp

/-- the sign of a sum, a difference or an application -/
def signT (op : Int) : List UInt8 := if op = 8 then [43] else if op = 9 then [45] else [32]
/-- the text of an expression -/
def textT : Tr → List UInt8
  | .node o n [] => if o = 1 then [byt (97 + n.toNat)] else if o = 2 then decT n.toNat else [byt (65 + n.toNat)]
  | .node o n [a] => (if o = 6 then [126] else [94]) ++ textT a
  | .node o n [a, b] => if o = 5 then [60] ++ textT a ++ [44] ++ textT b ++ [62] else [40] ++ textT a ++ signT o ++ textT b ++ [41]
  | .node o n [a, b, c] => [91] ++ textT a ++ [63] ++ textT b ++ [58] ++ textT c ++ [93]
  | _ => []
termination_by t => SizeOf.sizeOf t
decreasing_by all_goals (simp_wf; omega)
theorem textT_leaf {t : Tr} (hk : t.kids = []) : textT t = if t.op = 1 then [byt (97 + t.num.toNat)] else if t.op = 2 then decT t.num.toNat else [byt (65 + t.num.toNat)] := by
  cases t with
  | node o n ks => simp only [Tr.kids_node] at hk; subst hk; rw [textT]; rfl
theorem textT_one {t a : Tr} (hk : t.kids = [a]) : textT t = (if t.op = 6 then [126] else [94]) ++ textT a := by
  cases t with
  | node o n ks => simp only [Tr.kids_node] at hk; subst hk; rw [textT]; rfl
theorem textT_two {t a b : Tr} (hk : t.kids = [a, b]) : textT t = if t.op = 5 then [60] ++ textT a ++ [44] ++ textT b ++ [62] else [40] ++ textT a ++ signT t.op ++ textT b ++ [41] := by
  cases t with
  | node o n ks => simp only [Tr.kids_node] at hk; subst hk; rw [textT]; rfl
theorem textT_three {t a b c : Tr} (hk : t.kids = [a, b, c]) : textT t = [91] ++ textT a ++ [63] ++ textT b ++ [58] ++ textT c ++ [93] := by
  cases t with
  | node o n ks => simp only [Tr.kids_node] at hk; subst hk; rw [textT]
/-- .. as a string -/
def textB (t : Tr) : ByteArray := ⟨(textT t).toArray⟩
theorem textB_size (t : Tr) : (textB t).size = (textT t).length := rfl

/-- what l1Text does at a tree -/
def TxSaid (t : Tr) : Prop := ∀ (c : Value) (w : World), In w t.kids c → I64 t.op ∧ I64 t.num →
  Calls Try.prog 131 #[.agg #[.int .i64 t.op, .int .i64 t.num, c]] w fun e w' => e = .returned (.string (textB t)) ∧ Below w.heap.size w w'
/-- a valid number -/
theorem ShE.num1 {t : Tr} (h : ShE t) (ho : t.op = 1) : 0 ≤ t.num ∧ t.num < 4 := by
  obtain ⟨d, h⟩ := h
  cases d with
  | zero => simp [shB] at h
  | succ d =>
    unfold shB at h
    simp only [Bool.and_eq_true] at h
    have h2 := h.1.2
    unfold ownB at h2
    rw [if_pos ho] at h2
    simpa using h2
theorem ShE.num2 {t : Tr} (h : ShE t) (ho : t.op = 2) : 0 ≤ t.num ∧ t.num ≤ 999 := by
  obtain ⟨d, h⟩ := h
  cases d with
  | zero => simp [shB] at h
  | succ d =>
    unfold shB at h
    simp only [Bool.and_eq_true] at h
    have h2 := h.1.2
    unfold ownB at h2
    rw [if_neg (by omega), if_pos ho] at h2
    simpa using h2
theorem signT_len (o : Int) : (signT o).length = 1 := by unfold signT; split; rfl; split <;> rfl
theorem textT_len : ∀ (n : Nat) (t : Tr), szT t ≤ n → ShE t → (textT t).length ≤ 4 * (1 + szT t) := by
  intro n
  induction n using Nat.strongRecOn with
  | ind n ih =>
    intro t hz hs
    have hz' : szT t = szL t.kids := szT_eq t
    have kid : ∀ k, k ∈ t.kids → (textT k).length ≤ 4 * (1 + szT k) := by
      intro k hk
      obtain ⟨i, hi, rfl⟩ := List.getElem_of_mem hk
      have := szT_lt_szL t.kids i hi
      exact ih _ (by omega) _ (Nat.le_refl _) (hs.kid hk)
    rcases hs.cases with ⟨ho, hk0⟩ | ⟨ho, a, hk1⟩ | ⟨ho, a, b, hk2⟩ | ⟨ho, a, b, d, hk3⟩
    · rw [textT_leaf hk0]
      split
      · simp; omega
      split
      · rename_i h2
        have := hs.num2 h2
        have := decT_len t.num.toNat (by omega)
        omega
      · simp; omega
    · have h1 := kid a (by rw [hk1]; simp)
      rw [textT_one hk1, hz', hk1]
      simp only [szL, List.length_append]
      split <;> simp <;> omega
    · have h1 := kid a (by rw [hk2]; simp)
      have h2 := kid b (by rw [hk2]; simp)
      have h3 := signT_len t.op
      rw [textT_two hk2, hz', hk2]
      split <;> simp only [szL, List.length_append, List.length_cons, List.length_nil] <;> omega
    · have h1 := kid a (by rw [hk3]; simp)
      have h2 := kid b (by rw [hk3]; simp)
      have h3 := kid d (by rw [hk3]; simp)
      rw [textT_three hk3, hz', hk3]
      simp only [szL, List.length_append, List.length_cons, List.length_nil]
      omega

set_option maxRecDepth 100000 in
set_option maxHeartbeats 1600000 in
theorem tx_pair (num : Int) (bl off cap : Nat) (o1 n1 : Int) (z1 cap1 : Nat) (ad1 : Option Addr) (o2 n2 : Int) (z2 cap2 : Nat) (ad2 : Option Addr) (A B : ByteArray) (w : World)
    (c10 : w.cell? ⟨bl, off, none⟩ = some (.int .i64 o1)) (c11 : w.cell? ⟨bl, off + 1, none⟩ = some (.int .i64 n1)) (c12 : w.cell? ⟨bl, off + 2, none⟩ = some (.slice ad1 z1 cap1))
    (c20 : w.cell? ⟨bl, off + 3, none⟩ = some (.int .i64 o2)) (c21 : w.cell? ⟨bl, off + 3 + 1, none⟩ = some (.int .i64 n2)) (c22 : w.cell? ⟨bl, off + 3 + 2, none⟩ = some (.slice ad2 z2 cap2))
    (hs1 : A.size ≤ 4398046511108) (hs2 : B.size ≤ 4398046511108)
    (h1 : ∀ W, Below w.heap.size w W → Calls Try.prog 131 #[.agg #[.int .i64 o1, .int .i64 n1, .slice ad1 z1 cap1]] W fun e w' => e = .returned (.string A) ∧ Below W.heap.size W w')
    (h2 : ∀ W, Below w.heap.size w W → Calls Try.prog 131 #[.agg #[.int .i64 o2, .int .i64 n2, .slice ad2 z2 cap2]] W fun e w' => e = .returned (.string B) ∧ Below W.heap.size W w') :
    Calls Try.prog 131 #[.agg #[.int .i64 5, .int .i64 num, .slice (some ⟨bl, off, none⟩) 2 cap]] w fun e w' => e = .returned (.string ((⟨#[60]⟩ : ByteArray) ++ A ++ (⟨#[44]⟩ : ByteArray) ++ B ++ (⟨#[62]⟩ : ByteArray))) ∧ Below w.heap.size w w' := by
  obtain ⟨wa, hwa⟩ : ∃ wa, wa = w.alloc (.cells #[.int .i64 5, .int .i64 num, .slice (some ⟨bl, off, none⟩) 2 cap] 32) := ⟨_, rfl⟩
  have HBA : Hid (Below w.heap.size w wa) := by rw [hwa]; exact box_below _ _
  have HWA := mkHid hwa
  have hba : wa.heap[w.heap.size]? = some (.cells #[.int .i64 5, .int .i64 num, .slice (some ⟨bl, off, none⟩) 2 cap] 32) := by rw [hwa]; exact Deep.blk_alloc_new _ _
  obtain ⟨wb, hwb⟩ : ∃ wb, wb = wa := ⟨_, rfl⟩
  have HWB := mkHid hwb
  have HBX : Hid (Below w.heap.size w wb) := by rw [hwb]; exact HBA.out
  have hbx := (show wb.heap[w.heap.size]? = wa.heap[w.heap.size]? by rw [hwb]).trans hba
  have H1 : Hid (∀ W, Below wb.heap.size wb W → Calls Try.prog 131 #[.agg #[.int .i64 o1, .int .i64 n1, .slice ad1 z1 cap1]] W fun e w' => e = .returned (.string A) ∧ Below W.heap.size W w') := fun W h => h1 W (HBX.out.trans (h.mono HBX.out.size))
  have H2 : Hid (∀ W, Below wb.heap.size wb W → Calls Try.prog 131 #[.agg #[.int .i64 o2, .int .i64 n2, .slice ad2 z2 cap2]] W fun e w' => e = .returned (.string B) ∧ Below W.heap.size W w') := fun W h => h2 W (HBX.out.trans (h.mono HBX.out.size))
  have r10 := cell_regrown ((HBX.out.cell (cell_lt c10)).trans c10)
  have r11 := cell_regrown ((HBX.out.cell (cell_lt c11)).trans c11)
  have r12 := cell_regrown ((HBX.out.cell (cell_lt c12)).trans c12)
  have r20 := cell_regrown ((HBX.out.cell (cell_lt c20)).trans c20)
  have r21 := cell_regrown ((HBX.out.cell (cell_lt c21)).trans c21)
  have r22 := cell_regrown ((HBX.out.cell (cell_lt c22)).trans c22)
  have rk := cell_regrown (cell_of_blk hbx 2 _ rfl)
  clear c10 c11 c12 c20 c21 c22 h1 h2 hwb hbx hwa hba
  go_enter Try.func131, Try.ntmps131
  go_wp2_with fail
  rw [← HWA.out, ← HWB.out]
  refine wp_region_quiet_below (by kernel_rfl) (by kernel_rfl) ?_
  iterate 4 (any_goals (first | go_big_quiet_step (fail) | quiet_step (fail)))
  any_goals (first | go_big_quiet_step (exact quietB (fun W h => H1.out W h) _ _) | quiet_step (exact quietB (fun W h => H1.out W h) _ _))
  iterate 6 (any_goals (first | go_big_quiet_step (fail) | quiet_step (fail)))
  any_goals (first | go_big_quiet_step (exact quietB (fun W h => H2.out W h) _ _) | quiet_step (exact quietB (fun W h => H2.out W h) _ _))
  iterate 3 (any_goals (first | go_big_quiet_step (fail) | quiet_step (fail)))
  refine wpQuiet_nil ?_
  intro _ hw'
  obtain ⟨⟨dq, osq⟩, hw''⟩ := hw'
  subst hw''
  clear r10 r11 r12 r20 r21 r22 rk
  go_wp2_with fail
  go_ret
  exact ⟨rfl, HBX.out.trans ((below_regrown _ _ _).mono HBX.out.size)⟩

set_option maxRecDepth 100000 in
set_option maxHeartbeats 1600000 in
theorem tx_bin4 (num : Int) (bl off cap : Nat) (o1 n1 : Int) (z1 cap1 : Nat) (ad1 : Option Addr) (o2 n2 : Int) (z2 cap2 : Nat) (ad2 : Option Addr) (A B : ByteArray) (w : World)
    (c10 : w.cell? ⟨bl, off, none⟩ = some (.int .i64 o1)) (c11 : w.cell? ⟨bl, off + 1, none⟩ = some (.int .i64 n1)) (c12 : w.cell? ⟨bl, off + 2, none⟩ = some (.slice ad1 z1 cap1))
    (c20 : w.cell? ⟨bl, off + 3, none⟩ = some (.int .i64 o2)) (c21 : w.cell? ⟨bl, off + 3 + 1, none⟩ = some (.int .i64 n2)) (c22 : w.cell? ⟨bl, off + 3 + 2, none⟩ = some (.slice ad2 z2 cap2))
    (hs1 : A.size ≤ 4398046511108) (hs2 : B.size ≤ 4398046511108)
    (h1 : ∀ W, Below w.heap.size w W → Calls Try.prog 131 #[.agg #[.int .i64 o1, .int .i64 n1, .slice ad1 z1 cap1]] W fun e w' => e = .returned (.string A) ∧ Below W.heap.size W w')
    (h2 : ∀ W, Below w.heap.size w W → Calls Try.prog 131 #[.agg #[.int .i64 o2, .int .i64 n2, .slice ad2 z2 cap2]] W fun e w' => e = .returned (.string B) ∧ Below W.heap.size W w') :
    Calls Try.prog 131 #[.agg #[.int .i64 4, .int .i64 num, .slice (some ⟨bl, off, none⟩) 2 cap]] w fun e w' => e = .returned (.string ((⟨#[40]⟩ : ByteArray) ++ A ++ (⟨#[32]⟩ : ByteArray) ++ B ++ (⟨#[41]⟩ : ByteArray))) ∧ Below w.heap.size w w' := by
  obtain ⟨wa, hwa⟩ : ∃ wa, wa = w.alloc (.cells #[.int .i64 4, .int .i64 num, .slice (some ⟨bl, off, none⟩) 2 cap] 32) := ⟨_, rfl⟩
  have HBA : Hid (Below w.heap.size w wa) := by rw [hwa]; exact box_below _ _
  have HWA := mkHid hwa
  have hba : wa.heap[w.heap.size]? = some (.cells #[.int .i64 4, .int .i64 num, .slice (some ⟨bl, off, none⟩) 2 cap] 32) := by rw [hwa]; exact Deep.blk_alloc_new _ _
  obtain ⟨wb, hwb⟩ : ∃ wb, wb = wa.alloc (.cells #[.string ⟨#[32]⟩, .string ⟨#[43]⟩, .string ⟨#[45]⟩] 9) := ⟨_, rfl⟩
  have HWB := mkHid hwb
  have hsz : wa.heap.size = w.heap.size + 1 := by rw [hwa, Deep.nblk_alloc]
  have HBX : Hid (Below w.heap.size w wb) := by rw [hwb]; exact HBA.out.alloc HBA.out.size _
  have hbx := (show wb.heap[w.heap.size]? = wa.heap[w.heap.size]? by rw [hwb]; exact Deep.blk_alloc_lt _ _ _ (by omega)).trans hba
  have hbs : wb.heap[w.heap.size + 1]? = some (.cells #[.string ⟨#[32]⟩, .string ⟨#[43]⟩, .string ⟨#[45]⟩] 9) := by rw [hwb, ← hsz]; exact Deep.blk_alloc_new _ _
  have H1 : Hid (∀ W, Below wb.heap.size wb W → Calls Try.prog 131 #[.agg #[.int .i64 o1, .int .i64 n1, .slice ad1 z1 cap1]] W fun e w' => e = .returned (.string A) ∧ Below W.heap.size W w') := fun W h => h1 W (HBX.out.trans (h.mono HBX.out.size))
  have H2 : Hid (∀ W, Below wb.heap.size wb W → Calls Try.prog 131 #[.agg #[.int .i64 o2, .int .i64 n2, .slice ad2 z2 cap2]] W fun e w' => e = .returned (.string B) ∧ Below W.heap.size W w') := fun W h => h2 W (HBX.out.trans (h.mono HBX.out.size))
  have r10 := cell_regrown ((HBX.out.cell (cell_lt c10)).trans c10)
  have r11 := cell_regrown ((HBX.out.cell (cell_lt c11)).trans c11)
  have r12 := cell_regrown ((HBX.out.cell (cell_lt c12)).trans c12)
  have r20 := cell_regrown ((HBX.out.cell (cell_lt c20)).trans c20)
  have r21 := cell_regrown ((HBX.out.cell (cell_lt c21)).trans c21)
  have r22 := cell_regrown ((HBX.out.cell (cell_lt c22)).trans c22)
  have rk := cell_regrown (cell_of_blk hbx 2 _ rfl)
  have x0 := cell_of_blk hba 0 _ rfl
  have y0 := cell_of_blk hbx 0 _ rfl
  have rs := cell_regrown (cell_of_blk hbs 0 _ rfl)
  clear c10 c11 c12 c20 c21 c22 h1 h2 hwb hbx hwa hba hbs hsz
  go_enter Try.func131, Try.ntmps131
  go_wp2_with fail
  rw [← HWA.out, ← HWB.out]
  refine wp_region_quiet_below (by kernel_rfl) (by kernel_rfl) ?_
  iterate 4 (any_goals (first | go_big_quiet_step (fail) | quiet_step (fail)))
  any_goals (first | go_big_quiet_step (exact quietB (fun W h => H1.out W h) _ _) | quiet_step (exact quietB (fun W h => H1.out W h) _ _))
  iterate 10 (any_goals (first | go_big_quiet_step (fail) | quiet_step (fail)))
  any_goals (first | go_big_quiet_step (exact quietB (fun W h => H2.out W h) _ _) | quiet_step (exact quietB (fun W h => H2.out W h) _ _))
  iterate 3 (any_goals (first | go_big_quiet_step (fail) | quiet_step (fail)))
  refine wpQuiet_nil ?_
  intro _ hw'
  obtain ⟨⟨dq, osq⟩, hw''⟩ := hw'
  subst hw''
  clear r10 r11 r12 r20 r21 r22 rk rs
  go_wp2_with fail
  go_ret
  exact ⟨rfl, HBX.out.trans ((below_regrown _ _ _).mono HBX.out.size)⟩

set_option maxRecDepth 100000 in
set_option maxHeartbeats 1600000 in
theorem tx_bin8 (num : Int) (bl off cap : Nat) (o1 n1 : Int) (z1 cap1 : Nat) (ad1 : Option Addr) (o2 n2 : Int) (z2 cap2 : Nat) (ad2 : Option Addr) (A B : ByteArray) (w : World)
    (c10 : w.cell? ⟨bl, off, none⟩ = some (.int .i64 o1)) (c11 : w.cell? ⟨bl, off + 1, none⟩ = some (.int .i64 n1)) (c12 : w.cell? ⟨bl, off + 2, none⟩ = some (.slice ad1 z1 cap1))
    (c20 : w.cell? ⟨bl, off + 3, none⟩ = some (.int .i64 o2)) (c21 : w.cell? ⟨bl, off + 3 + 1, none⟩ = some (.int .i64 n2)) (c22 : w.cell? ⟨bl, off + 3 + 2, none⟩ = some (.slice ad2 z2 cap2))
    (hs1 : A.size ≤ 4398046511108) (hs2 : B.size ≤ 4398046511108)
    (h1 : ∀ W, Below w.heap.size w W → Calls Try.prog 131 #[.agg #[.int .i64 o1, .int .i64 n1, .slice ad1 z1 cap1]] W fun e w' => e = .returned (.string A) ∧ Below W.heap.size W w')
    (h2 : ∀ W, Below w.heap.size w W → Calls Try.prog 131 #[.agg #[.int .i64 o2, .int .i64 n2, .slice ad2 z2 cap2]] W fun e w' => e = .returned (.string B) ∧ Below W.heap.size W w') :
    Calls Try.prog 131 #[.agg #[.int .i64 8, .int .i64 num, .slice (some ⟨bl, off, none⟩) 2 cap]] w fun e w' => e = .returned (.string ((⟨#[40]⟩ : ByteArray) ++ A ++ (⟨#[43]⟩ : ByteArray) ++ B ++ (⟨#[41]⟩ : ByteArray))) ∧ Below w.heap.size w w' := by
  obtain ⟨wa, hwa⟩ : ∃ wa, wa = w.alloc (.cells #[.int .i64 8, .int .i64 num, .slice (some ⟨bl, off, none⟩) 2 cap] 32) := ⟨_, rfl⟩
  have HBA : Hid (Below w.heap.size w wa) := by rw [hwa]; exact box_below _ _
  have HWA := mkHid hwa
  have hba : wa.heap[w.heap.size]? = some (.cells #[.int .i64 8, .int .i64 num, .slice (some ⟨bl, off, none⟩) 2 cap] 32) := by rw [hwa]; exact Deep.blk_alloc_new _ _
  obtain ⟨wb, hwb⟩ : ∃ wb, wb = wa.alloc (.cells #[.string ⟨#[32]⟩, .string ⟨#[43]⟩, .string ⟨#[45]⟩] 9) := ⟨_, rfl⟩
  have HWB := mkHid hwb
  have hsz : wa.heap.size = w.heap.size + 1 := by rw [hwa, Deep.nblk_alloc]
  have HBX : Hid (Below w.heap.size w wb) := by rw [hwb]; exact HBA.out.alloc HBA.out.size _
  have hbx := (show wb.heap[w.heap.size]? = wa.heap[w.heap.size]? by rw [hwb]; exact Deep.blk_alloc_lt _ _ _ (by omega)).trans hba
  have hbs : wb.heap[w.heap.size + 1]? = some (.cells #[.string ⟨#[32]⟩, .string ⟨#[43]⟩, .string ⟨#[45]⟩] 9) := by rw [hwb, ← hsz]; exact Deep.blk_alloc_new _ _
  have H1 : Hid (∀ W, Below wb.heap.size wb W → Calls Try.prog 131 #[.agg #[.int .i64 o1, .int .i64 n1, .slice ad1 z1 cap1]] W fun e w' => e = .returned (.string A) ∧ Below W.heap.size W w') := fun W h => h1 W (HBX.out.trans (h.mono HBX.out.size))
  have H2 : Hid (∀ W, Below wb.heap.size wb W → Calls Try.prog 131 #[.agg #[.int .i64 o2, .int .i64 n2, .slice ad2 z2 cap2]] W fun e w' => e = .returned (.string B) ∧ Below W.heap.size W w') := fun W h => h2 W (HBX.out.trans (h.mono HBX.out.size))
  have r10 := cell_regrown ((HBX.out.cell (cell_lt c10)).trans c10)
  have r11 := cell_regrown ((HBX.out.cell (cell_lt c11)).trans c11)
  have r12 := cell_regrown ((HBX.out.cell (cell_lt c12)).trans c12)
  have r20 := cell_regrown ((HBX.out.cell (cell_lt c20)).trans c20)
  have r21 := cell_regrown ((HBX.out.cell (cell_lt c21)).trans c21)
  have r22 := cell_regrown ((HBX.out.cell (cell_lt c22)).trans c22)
  have rk := cell_regrown (cell_of_blk hbx 2 _ rfl)
  have x0 := cell_of_blk hba 0 _ rfl
  have y0 := cell_of_blk hbx 0 _ rfl
  have rs := cell_regrown (cell_of_blk hbs 1 _ rfl)
  clear c10 c11 c12 c20 c21 c22 h1 h2 hwb hbx hwa hba hbs hsz
  go_enter Try.func131, Try.ntmps131
  go_wp2_with fail
  rw [← HWA.out, ← HWB.out]
  refine wp_region_quiet_below (by kernel_rfl) (by kernel_rfl) ?_
  iterate 4 (any_goals (first | go_big_quiet_step (fail) | quiet_step (fail)))
  any_goals (first | go_big_quiet_step (exact quietB (fun W h => H1.out W h) _ _) | quiet_step (exact quietB (fun W h => H1.out W h) _ _))
  iterate 10 (any_goals (first | go_big_quiet_step (fail) | quiet_step (fail)))
  any_goals (first | go_big_quiet_step (exact quietB (fun W h => H2.out W h) _ _) | quiet_step (exact quietB (fun W h => H2.out W h) _ _))
  iterate 3 (any_goals (first | go_big_quiet_step (fail) | quiet_step (fail)))
  refine wpQuiet_nil ?_
  intro _ hw'
  obtain ⟨⟨dq, osq⟩, hw''⟩ := hw'
  subst hw''
  clear r10 r11 r12 r20 r21 r22 rk rs
  go_wp2_with fail
  go_ret
  exact ⟨rfl, HBX.out.trans ((below_regrown _ _ _).mono HBX.out.size)⟩

set_option maxRecDepth 100000 in
set_option maxHeartbeats 1600000 in
theorem tx_bin9 (num : Int) (bl off cap : Nat) (o1 n1 : Int) (z1 cap1 : Nat) (ad1 : Option Addr) (o2 n2 : Int) (z2 cap2 : Nat) (ad2 : Option Addr) (A B : ByteArray) (w : World)
    (c10 : w.cell? ⟨bl, off, none⟩ = some (.int .i64 o1)) (c11 : w.cell? ⟨bl, off + 1, none⟩ = some (.int .i64 n1)) (c12 : w.cell? ⟨bl, off + 2, none⟩ = some (.slice ad1 z1 cap1))
    (c20 : w.cell? ⟨bl, off + 3, none⟩ = some (.int .i64 o2)) (c21 : w.cell? ⟨bl, off + 3 + 1, none⟩ = some (.int .i64 n2)) (c22 : w.cell? ⟨bl, off + 3 + 2, none⟩ = some (.slice ad2 z2 cap2))
    (hs1 : A.size ≤ 4398046511108) (hs2 : B.size ≤ 4398046511108)
    (h1 : ∀ W, Below w.heap.size w W → Calls Try.prog 131 #[.agg #[.int .i64 o1, .int .i64 n1, .slice ad1 z1 cap1]] W fun e w' => e = .returned (.string A) ∧ Below W.heap.size W w')
    (h2 : ∀ W, Below w.heap.size w W → Calls Try.prog 131 #[.agg #[.int .i64 o2, .int .i64 n2, .slice ad2 z2 cap2]] W fun e w' => e = .returned (.string B) ∧ Below W.heap.size W w') :
    Calls Try.prog 131 #[.agg #[.int .i64 9, .int .i64 num, .slice (some ⟨bl, off, none⟩) 2 cap]] w fun e w' => e = .returned (.string ((⟨#[40]⟩ : ByteArray) ++ A ++ (⟨#[45]⟩ : ByteArray) ++ B ++ (⟨#[41]⟩ : ByteArray))) ∧ Below w.heap.size w w' := by
  obtain ⟨wa, hwa⟩ : ∃ wa, wa = w.alloc (.cells #[.int .i64 9, .int .i64 num, .slice (some ⟨bl, off, none⟩) 2 cap] 32) := ⟨_, rfl⟩
  have HBA : Hid (Below w.heap.size w wa) := by rw [hwa]; exact box_below _ _
  have HWA := mkHid hwa
  have hba : wa.heap[w.heap.size]? = some (.cells #[.int .i64 9, .int .i64 num, .slice (some ⟨bl, off, none⟩) 2 cap] 32) := by rw [hwa]; exact Deep.blk_alloc_new _ _
  obtain ⟨wb, hwb⟩ : ∃ wb, wb = wa.alloc (.cells #[.string ⟨#[32]⟩, .string ⟨#[43]⟩, .string ⟨#[45]⟩] 9) := ⟨_, rfl⟩
  have HWB := mkHid hwb
  have hsz : wa.heap.size = w.heap.size + 1 := by rw [hwa, Deep.nblk_alloc]
  have HBX : Hid (Below w.heap.size w wb) := by rw [hwb]; exact HBA.out.alloc HBA.out.size _
  have hbx := (show wb.heap[w.heap.size]? = wa.heap[w.heap.size]? by rw [hwb]; exact Deep.blk_alloc_lt _ _ _ (by omega)).trans hba
  have hbs : wb.heap[w.heap.size + 1]? = some (.cells #[.string ⟨#[32]⟩, .string ⟨#[43]⟩, .string ⟨#[45]⟩] 9) := by rw [hwb, ← hsz]; exact Deep.blk_alloc_new _ _
  have H1 : Hid (∀ W, Below wb.heap.size wb W → Calls Try.prog 131 #[.agg #[.int .i64 o1, .int .i64 n1, .slice ad1 z1 cap1]] W fun e w' => e = .returned (.string A) ∧ Below W.heap.size W w') := fun W h => h1 W (HBX.out.trans (h.mono HBX.out.size))
  have H2 : Hid (∀ W, Below wb.heap.size wb W → Calls Try.prog 131 #[.agg #[.int .i64 o2, .int .i64 n2, .slice ad2 z2 cap2]] W fun e w' => e = .returned (.string B) ∧ Below W.heap.size W w') := fun W h => h2 W (HBX.out.trans (h.mono HBX.out.size))
  have r10 := cell_regrown ((HBX.out.cell (cell_lt c10)).trans c10)
  have r11 := cell_regrown ((HBX.out.cell (cell_lt c11)).trans c11)
  have r12 := cell_regrown ((HBX.out.cell (cell_lt c12)).trans c12)
  have r20 := cell_regrown ((HBX.out.cell (cell_lt c20)).trans c20)
  have r21 := cell_regrown ((HBX.out.cell (cell_lt c21)).trans c21)
  have r22 := cell_regrown ((HBX.out.cell (cell_lt c22)).trans c22)
  have rk := cell_regrown (cell_of_blk hbx 2 _ rfl)
  have x0 := cell_of_blk hba 0 _ rfl
  have y0 := cell_of_blk hbx 0 _ rfl
  have rs := cell_regrown (cell_of_blk hbs 2 _ rfl)
  clear c10 c11 c12 c20 c21 c22 h1 h2 hwb hbx hwa hba hbs hsz
  go_enter Try.func131, Try.ntmps131
  go_wp2_with fail
  rw [← HWA.out, ← HWB.out]
  refine wp_region_quiet_below (by kernel_rfl) (by kernel_rfl) ?_
  iterate 4 (any_goals (first | go_big_quiet_step (fail) | quiet_step (fail)))
  any_goals (first | go_big_quiet_step (exact quietB (fun W h => H1.out W h) _ _) | quiet_step (exact quietB (fun W h => H1.out W h) _ _))
  iterate 10 (any_goals (first | go_big_quiet_step (fail) | quiet_step (fail)))
  any_goals (first | go_big_quiet_step (exact quietB (fun W h => H2.out W h) _ _) | quiet_step (exact quietB (fun W h => H2.out W h) _ _))
  iterate 3 (any_goals (first | go_big_quiet_step (fail) | quiet_step (fail)))
  refine wpQuiet_nil ?_
  intro _ hw'
  obtain ⟨⟨dq, osq⟩, hw''⟩ := hw'
  subst hw''
  clear r10 r11 r12 r20 r21 r22 rk rs
  go_wp2_with fail
  go_ret
  exact ⟨rfl, HBX.out.trans ((below_regrown _ _ _).mono HBX.out.size)⟩

set_option maxRecDepth 100000 in
set_option maxHeartbeats 1600000 in
theorem tx_if (num : Int) (bl off cap : Nat) (o1 n1 : Int) (z1 cap1 : Nat) (ad1 : Option Addr) (o2 n2 : Int) (z2 cap2 : Nat) (ad2 : Option Addr) (o3 n3 : Int) (z3 cap3 : Nat) (ad3 : Option Addr) (A B C : ByteArray) (w : World)
    (c10 : w.cell? ⟨bl, off, none⟩ = some (.int .i64 o1)) (c11 : w.cell? ⟨bl, off + 1, none⟩ = some (.int .i64 n1)) (c12 : w.cell? ⟨bl, off + 2, none⟩ = some (.slice ad1 z1 cap1))
    (c20 : w.cell? ⟨bl, off + 3, none⟩ = some (.int .i64 o2)) (c21 : w.cell? ⟨bl, off + 3 + 1, none⟩ = some (.int .i64 n2)) (c22 : w.cell? ⟨bl, off + 3 + 2, none⟩ = some (.slice ad2 z2 cap2))
    (c30 : w.cell? ⟨bl, off + 6, none⟩ = some (.int .i64 o3)) (c31 : w.cell? ⟨bl, off + 6 + 1, none⟩ = some (.int .i64 n3)) (c32 : w.cell? ⟨bl, off + 6 + 2, none⟩ = some (.slice ad3 z3 cap3))
    (hs1 : A.size ≤ 4398046511108) (hs2 : B.size ≤ 4398046511108) (hs3 : C.size ≤ 4398046511108)
    (h1 : ∀ W, Below w.heap.size w W → Calls Try.prog 131 #[.agg #[.int .i64 o1, .int .i64 n1, .slice ad1 z1 cap1]] W fun e w' => e = .returned (.string A) ∧ Below W.heap.size W w')
    (h2 : ∀ W, Below w.heap.size w W → Calls Try.prog 131 #[.agg #[.int .i64 o2, .int .i64 n2, .slice ad2 z2 cap2]] W fun e w' => e = .returned (.string B) ∧ Below W.heap.size W w')
    (h3 : ∀ W, Below w.heap.size w W → Calls Try.prog 131 #[.agg #[.int .i64 o3, .int .i64 n3, .slice ad3 z3 cap3]] W fun e w' => e = .returned (.string C) ∧ Below W.heap.size W w') :
    Calls Try.prog 131 #[.agg #[.int .i64 10, .int .i64 num, .slice (some ⟨bl, off, none⟩) 3 cap]] w fun e w' => e = .returned (.string ((⟨#[91]⟩ : ByteArray) ++ A ++ (⟨#[63]⟩ : ByteArray) ++ B ++ (⟨#[58]⟩ : ByteArray) ++ C ++ (⟨#[93]⟩ : ByteArray))) ∧ Below w.heap.size w w' := by
  obtain ⟨wa, hwa⟩ : ∃ wa, wa = w.alloc (.cells #[.int .i64 10, .int .i64 num, .slice (some ⟨bl, off, none⟩) 3 cap] 32) := ⟨_, rfl⟩
  have HBA : Hid (Below w.heap.size w wa) := by rw [hwa]; exact box_below _ _
  have HWA := mkHid hwa
  have hba : wa.heap[w.heap.size]? = some (.cells #[.int .i64 10, .int .i64 num, .slice (some ⟨bl, off, none⟩) 3 cap] 32) := by rw [hwa]; exact Deep.blk_alloc_new _ _
  obtain ⟨wb, hwb⟩ : ∃ wb, wb = wa := ⟨_, rfl⟩
  have HWB := mkHid hwb
  have HBX : Hid (Below w.heap.size w wb) := by rw [hwb]; exact HBA.out
  have hbx := (show wb.heap[w.heap.size]? = wa.heap[w.heap.size]? by rw [hwb]).trans hba
  have H1 : Hid (∀ W, Below wb.heap.size wb W → Calls Try.prog 131 #[.agg #[.int .i64 o1, .int .i64 n1, .slice ad1 z1 cap1]] W fun e w' => e = .returned (.string A) ∧ Below W.heap.size W w') := fun W h => h1 W (HBX.out.trans (h.mono HBX.out.size))
  have H2 : Hid (∀ W, Below wb.heap.size wb W → Calls Try.prog 131 #[.agg #[.int .i64 o2, .int .i64 n2, .slice ad2 z2 cap2]] W fun e w' => e = .returned (.string B) ∧ Below W.heap.size W w') := fun W h => h2 W (HBX.out.trans (h.mono HBX.out.size))
  have H3 : Hid (∀ W, Below wb.heap.size wb W → Calls Try.prog 131 #[.agg #[.int .i64 o3, .int .i64 n3, .slice ad3 z3 cap3]] W fun e w' => e = .returned (.string C) ∧ Below W.heap.size W w') := fun W h => h3 W (HBX.out.trans (h.mono HBX.out.size))
  have r10 := cell_regrown ((HBX.out.cell (cell_lt c10)).trans c10)
  have r11 := cell_regrown ((HBX.out.cell (cell_lt c11)).trans c11)
  have r12 := cell_regrown ((HBX.out.cell (cell_lt c12)).trans c12)
  have r20 := cell_regrown ((HBX.out.cell (cell_lt c20)).trans c20)
  have r21 := cell_regrown ((HBX.out.cell (cell_lt c21)).trans c21)
  have r22 := cell_regrown ((HBX.out.cell (cell_lt c22)).trans c22)
  have r30 := cell_regrown ((HBX.out.cell (cell_lt c30)).trans c30)
  have r31 := cell_regrown ((HBX.out.cell (cell_lt c31)).trans c31)
  have r32 := cell_regrown ((HBX.out.cell (cell_lt c32)).trans c32)
  have rk := cell_regrown (cell_of_blk hbx 2 _ rfl)
  clear c10 c11 c12 c20 c21 c22 c30 c31 c32 h1 h2 h3 hwb hbx hwa hba
  go_enter Try.func131, Try.ntmps131
  go_wp2_with fail
  rw [← HWA.out, ← HWB.out]
  refine wp_region_quiet_below (by kernel_rfl) (by kernel_rfl) ?_
  iterate 4 (any_goals (first | go_big_quiet_step (fail) | quiet_step (fail)))
  any_goals (first | go_big_quiet_step (exact quietB (fun W h => H1.out W h) _ _) | quiet_step (exact quietB (fun W h => H1.out W h) _ _))
  iterate 6 (any_goals (first | go_big_quiet_step (fail) | quiet_step (fail)))
  any_goals (first | go_big_quiet_step (exact quietB (fun W h => H2.out W h) _ _) | quiet_step (exact quietB (fun W h => H2.out W h) _ _))
  iterate 6 (any_goals (first | go_big_quiet_step (fail) | quiet_step (fail)))
  any_goals (first | go_big_quiet_step (exact quietB (fun W h => H3.out W h) _ _) | quiet_step (exact quietB (fun W h => H3.out W h) _ _))
  iterate 3 (any_goals (first | go_big_quiet_step (fail) | quiet_step (fail)))
  refine wpQuiet_nil ?_
  intro _ hw'
  obtain ⟨⟨dq, osq⟩, hw''⟩ := hw'
  subst hw''
  clear r10 r11 r12 r20 r21 r22 r30 r31 r32 rk
  go_wp2_with fail
  go_ret
  exact ⟨rfl, HBX.out.trans ((below_regrown _ _ _).mono HBX.out.size)⟩

set_option maxRecDepth 100000 in
set_option maxHeartbeats 1600000 in
theorem l1Text_step (t : Tr) (hsh : ShE t) (hz : szT t ≤ 1099511627776) (ih : ∀ x, szT x < szT t → ShE x → TxSaid x) : TxSaid t := by
  intro c w hk ht
  have HK := mkHid hk
  have HS := mkHid hsh
  have HI := mkHid ih
  obtain ⟨ad, cap, rfl, -, -, -⟩ := hk
  have HBX : Hid (Below w.heap.size w (w.alloc (.cells #[.int .i64 t.op, .int .i64 t.num, .slice ad t.kids.length cap] 32))) := box_below _ _
  have kid : ∀ (i : Nat) (hi : i < t.kids.length), ∃ bl off adk capk, ad = some ⟨bl, off, none⟩ ∧ w.cell? ⟨bl, off + i * 3, none⟩ = some (.int .i64 t.kids[i].op) ∧ w.cell? ⟨bl, off + i * 3 + 1, none⟩ = some (.int .i64 t.kids[i].num) ∧ w.cell? ⟨bl, off + i * 3 + 2, none⟩ = some (.slice adk t.kids[i].kids.length capk) ∧ (textB t.kids[i]).size ≤ 4398046511108 ∧
      ∀ W, Below w.heap.size w W → Calls Try.prog 131 #[.agg #[.int .i64 t.kids[i].op, .int .i64 t.kids[i].num, .slice adk t.kids[i].kids.length capk]] W fun e w' => e = .returned (.string (textB t.kids[i])) ∧ Below W.heap.size W w' := by
    intro i hi
    obtain ⟨_, _, he, -, -, hr⟩ := HK.out
    cases he
    rcases hr with hnil | ⟨bl, off, rfl, -, hr⟩
    · rw [hnil] at hi; simp at hi
    obtain ⟨a, b, r, e0, e1, e2, htr⟩ := RowOn.at t.kids off i hi hr
    obtain ⟨rfl, rfl, i0, i1, hkk⟩ := trOn_iff.1 htr
    obtain ⟨adk, capk, rfl, -, -, -⟩ := id hkk
    have hsk := HS.out.kid (List.getElem_mem hi)
    have hlt := szT_lt_szL t.kids i hi
    have h4 := textT_len _ _ (Nat.le_refl _) hsk
    rw [← szT_eq] at hlt
    exact ⟨bl, off, adk, capk, rfl, e0, e1, e2, by rw [textB_size]; omega, fun W hW => HI.out _ hlt hsk _ W (hkk.next hW) ⟨i0, i1⟩⟩
  have HKI := mkHid kid
  clear hsh ih kid ht
  rcases HS.out.cases with ⟨ho, hk0⟩ | ⟨ho, a, hk1⟩ | ⟨ho, a, b, hk2⟩ | ⟨ho, a, b, d, hk3⟩
  · rcases ho with ho | ho | ho
    · obtain ⟨hn0, hn1⟩ := HS.out.num1 ho
      obtain ⟨n, hn⟩ : ∃ n : Nat, t.num = (n : Int) := ⟨t.num.toNat, by omega⟩
      have HV : Hid ((⟨#[byt (97 + n)]⟩ : ByteArray) = textB t) := by unfold Hid textB; rw [textT_leaf hk0, if_pos ho, hn]; rfl
      have HL := mkHid fun W => l1Letter_calls 97 n W (by omega) (Nat.le_refl _)
      rw [ho, hn] at HBX ⊢
      clear ho hk0 hn0 hn1 hn
      go_enter Try.func131, Try.ntmps131
      go_wp2_with fail
      refine (HL.out _).mono ?_
      rintro e w1 ⟨rfl, hb1⟩
      have HB1 : Hid (Below w.heap.size w w1) := HBX.out.trans (hb1.mono HBX.out.size)
      clear hb1
      go_wp2_with fail
      go_ret
      exact ⟨ret_str HV.out, HB1.out⟩
    · obtain ⟨hn0, hn1⟩ := HS.out.num2 ho
      obtain ⟨n, hn⟩ : ∃ n : Nat, t.num = (n : Int) := ⟨t.num.toNat, by omega⟩
      have HV : Hid ((⟨(decT n).toArray⟩ : ByteArray) = textB t) := by unfold Hid textB; rw [textT_leaf hk0, if_neg (by omega), if_pos ho, hn]; rfl
      have HL := mkHid fun W => l16Dec_calls n W (by omega)
      rw [ho, hn] at HBX ⊢
      clear ho hk0 hn0 hn1 hn
      go_enter Try.func131, Try.ntmps131
      go_wp2_with fail
      refine (HL.out _).mono ?_
      rintro e w1 ⟨rfl, hb1⟩
      have HB1 : Hid (Below w.heap.size w w1) := HBX.out.trans (hb1.mono HBX.out.size)
      clear hb1
      go_wp2_with fail
      go_ret
      exact ⟨ret_str HV.out, HB1.out⟩
    · obtain ⟨hn0, hn1⟩ := HS.out.num ho
      obtain ⟨n, hn⟩ : ∃ n : Nat, t.num = (n : Int) := ⟨t.num.toNat, by omega⟩
      have HV : Hid ((⟨#[byt (65 + n)]⟩ : ByteArray) = textB t) := by unfold Hid textB; rw [textT_leaf hk0, if_neg (by omega), if_neg (by omega), hn]; rfl
      have HL := mkHid fun W => l1Letter_calls 65 n W (by omega) (by omega)
      rw [ho, hn] at HBX ⊢
      clear ho hk0 hn0 hn1 hn
      go_enter Try.func131, Try.ntmps131
      go_wp2_with fail
      refine (HL.out _).mono ?_
      rintro e w1 ⟨rfl, hb1⟩
      have HB1 : Hid (Below w.heap.size w w1) := HBX.out.trans (hb1.mono HBX.out.size)
      clear hb1
      go_wp2_with fail
      go_ret
      exact ⟨ret_str HV.out, HB1.out⟩
  · have hl1 : t.kids.length = 1 := by rw [hk1]; rfl
    have hkf := HKI.out 0 (by omega)
    simp only [hk1, List.getElem_cons_zero] at hkf
    obtain ⟨bl, off, adk, capk, rfl, c0, c1, c2, hsz, hc⟩ := hkf
    have HC := mkHid hc
    obtain ⟨B, hB⟩ : ∃ B, B = textB a := ⟨_, rfl⟩
    have HV : Hid ((⟨if t.op = 6 then #[126] else #[94]⟩ : ByteArray) ++ B = textB t) := by
      unfold Hid textB
      rw [textT_one hk1, hB]
      unfold textB
      split <;> rw [ByteArray.mk_append_mk] <;> simp
    have k0 := old_cell c0 (.cells #[.int .i64 t.op, .int .i64 t.num, .slice (some ⟨bl, off, none⟩) 1 cap] 32)
    have k1 := old_cell c1 (.cells #[.int .i64 t.op, .int .i64 t.num, .slice (some ⟨bl, off, none⟩) 1 cap] 32)
    have k2 := old_cell c2 (.cells #[.int .i64 t.op, .int .i64 t.num, .slice (some ⟨bl, off, none⟩) 1 cap] 32)
    rw [← hB] at HC hsz
    rw [hl1] at HBX ⊢
    simp only [Nat.zero_mul, Nat.add_zero] at k0 k1 k2
    clear hk1 hl1 c0 c1 c2 hc hB
    rcases ho with ho | ho
    all_goals
      rw [ho] at HBX k0 k1 k2 HV ⊢
      clear ho
      go_enter Try.func131, Try.ntmps131
      go_wp2_with fail
      refine (HC.out _ HBX.out).mono ?_
      rintro e w1 ⟨rfl, hb1⟩
      have HB1 : Hid (Below w.heap.size w w1) := HBX.out.trans (hb1.mono HBX.out.size)
      clear hb1 k0 k1 k2
      go_wp2_with fail
      go_ret
      exact ⟨ret_str HV.out, HB1.out⟩
  · have hl2 : t.kids.length = 2 := by rw [hk2]; rfl
    have hkf := HKI.out 0 (by omega)
    have hkg := HKI.out 1 (by omega)
    simp only [hk2, List.getElem_cons_zero, List.getElem_cons_succ] at hkf hkg
    obtain ⟨bl, off, adk, capk, rfl, c0, c1, c2, hsa, hc⟩ := hkf
    obtain ⟨bl', off', adk', capk', he, d0, d1, d2, hsb, hd⟩ := hkg
    simp only [Option.some.injEq, Addr.mk.injEq, and_true] at he
    obtain ⟨rfl, rfl⟩ := he
    obtain ⟨A, hA⟩ : ∃ A, A = textB a := ⟨_, rfl⟩
    obtain ⟨B, hB⟩ : ∃ B, B = textB b := ⟨_, rfl⟩
    have HV5 : Hid (t.op = 5 → (⟨#[60]⟩ : ByteArray) ++ A ++ ⟨#[44]⟩ ++ B ++ ⟨#[62]⟩ = textB t) := by
      intro h5
      unfold textB
      rw [textT_two hk2, if_pos h5, hA, hB]
      unfold textB
      simp [ByteArray.mk_append_mk]
    have HV4 : Hid (t.op ≠ 5 → (⟨#[40]⟩ : ByteArray) ++ A ++ ⟨(signT t.op).toArray⟩ ++ B ++ ⟨#[41]⟩ = textB t) := by
      intro h5
      unfold textB
      rw [textT_two hk2, if_neg h5, hA, hB]
      unfold textB
      simp [ByteArray.mk_append_mk]
    rw [← hA] at hc hsa
    rw [← hB] at hd hsb
    simp only [Nat.zero_mul, Nat.add_zero, Nat.one_mul] at c0 c1 c2 d0 d1 d2
    rw [hl2]
    obtain ⟨o1, ho1⟩ : ∃ o1, o1 = a.op := ⟨_, rfl⟩
    obtain ⟨n1, hn1⟩ : ∃ n1, n1 = a.num := ⟨_, rfl⟩
    obtain ⟨z1, hz1⟩ : ∃ z1, z1 = a.kids.length := ⟨_, rfl⟩
    obtain ⟨o2, ho2⟩ : ∃ o2, o2 = b.op := ⟨_, rfl⟩
    obtain ⟨n2, hn2⟩ : ∃ n2, n2 = b.num := ⟨_, rfl⟩
    obtain ⟨z2, hz2⟩ : ∃ z2, z2 = b.kids.length := ⟨_, rfl⟩
    rw [← ho1] at c0
    rw [← hn1] at c1
    rw [← hz1] at c2
    rw [← ho2] at d0
    rw [← hn2] at d1
    rw [← hz2] at d2
    rw [← ho1, ← hn1, ← hz1] at hc
    rw [← ho2, ← hn2, ← hz2] at hd
    by_cases h5 : t.op = 5
    · rw [h5]
      refine (tx_pair t.num bl off cap o1 n1 z1 capk adk o2 n2 z2 capk' adk' A B w c0 c1 c2 d0 d1 d2 hsa hsb hc hd).mono fun e w' h => ?_
      rw [HV5.out h5] at h
      exact h
    · have hv := HV4.out h5
      have ho3 : t.op = 4 ∨ t.op = 8 ∨ t.op = 9 := by omega
      rcases ho3 with h4 | h4 | h4
      · rw [h4] at hv ⊢
        refine (tx_bin4 t.num bl off cap o1 n1 z1 capk adk o2 n2 z2 capk' adk' A B w c0 c1 c2 d0 d1 d2 hsa hsb hc hd).mono fun e w' h => ⟨h.1.trans (ret_str hv), h.2⟩
      · rw [h4] at hv ⊢
        refine (tx_bin8 t.num bl off cap o1 n1 z1 capk adk o2 n2 z2 capk' adk' A B w c0 c1 c2 d0 d1 d2 hsa hsb hc hd).mono fun e w' h => ⟨h.1.trans (ret_str hv), h.2⟩
      · rw [h4] at hv ⊢
        refine (tx_bin9 t.num bl off cap o1 n1 z1 capk adk o2 n2 z2 capk' adk' A B w c0 c1 c2 d0 d1 d2 hsa hsb hc hd).mono fun e w' h => ⟨h.1.trans (ret_str hv), h.2⟩
  · have hl3 : t.kids.length = 3 := by rw [hk3]; rfl
    have hkf := HKI.out 0 (by omega)
    have hkg := HKI.out 1 (by omega)
    have hkh := HKI.out 2 (by omega)
    simp only [hk3, List.getElem_cons_zero, List.getElem_cons_succ] at hkf hkg hkh
    obtain ⟨bl, off, adk, capk, rfl, c0, c1, c2, hsa, hc⟩ := hkf
    obtain ⟨bl', off', adk', capk', he, d0, d1, d2, hsb, hd⟩ := hkg
    simp only [Option.some.injEq, Addr.mk.injEq, and_true] at he
    obtain ⟨rfl, rfl⟩ := he
    obtain ⟨bl', off', adk2, capk2, he, f0, f1, f2, hsc, hf⟩ := hkh
    simp only [Option.some.injEq, Addr.mk.injEq, and_true] at he
    obtain ⟨rfl, rfl⟩ := he
    have HV : Hid ((⟨#[91]⟩ : ByteArray) ++ textB a ++ ⟨#[63]⟩ ++ textB b ++ ⟨#[58]⟩ ++ textB d ++ ⟨#[93]⟩ = textB t) := by
      unfold Hid textB
      rw [textT_three hk3]
      simp [ByteArray.mk_append_mk]
    simp only [Nat.zero_mul, Nat.add_zero, Nat.one_mul] at c0 c1 c2 d0 d1 d2 f0 f1 f2
    rw [hl3, ho]
    exact (tx_if t.num bl off cap _ _ _ capk adk _ _ _ capk' adk' _ _ _ capk2 adk2 _ _ _ w c0 c1 c2 d0 d1 d2 f0 f1 f2 hsa hsb hsc hc hd hf).mono fun e w' h => ⟨h.1.trans (ret_str HV.out), h.2⟩

theorem l1Text_calls (t : Tr) (hsh : ShE t) (hz : szT t ≤ 1099511627776) : TxSaid t := by
  have key : ∀ (n : Nat) (t : Tr), szT t ≤ n → szT t ≤ 1099511627776 → ShE t → TxSaid t := by
    intro n
    induction n with
    | zero => intro t h0 h1 h2; exact l1Text_step t h2 h1 fun x hx => by omega
    | succ n ih => intro t h0 h1 h2; exact l1Text_step t h2 h1 fun x hx hsx => ih x (by omega) (by omega) hsx
  exact key _ t (Nat.le_refl _) hz hsh
end Go.Proofs.Ytglpehelmlehiaa
/-
  THE MODEL's l1Kids AND l1Own.
-/
namespace Go.Proofs.Ytglpehelmlehiaa
set_option linter.unusedVariables false
set_option linter.unusedSimpArgs false
open Go.RowKit

set_option maxHeartbeats 400000 in
theorem l1Kids_calls (op : Int) (w : World) : Calls Try.prog 114 #[.int .i64 op] w fun e w' => e = .returned (.int .i64 (arity op)) ∧ w = w' := by
  go_enter Try.func114, Try.ntmps114
  go_wp2_with fail
  all_goals go_ret
  all_goals refine ⟨ret_int ?_, rfl⟩
  all_goals show (_ : Int) = arity op
  all_goals unfold arity
  all_goals simp_all

set_option maxHeartbeats 400000 in
theorem l1Own_calls (op n vars defs : Int) (c : Value) (w : World) : Calls Try.prog 115 #[.agg #[.int .i64 op, .int .i64 n, c], .int .i64 vars, .int .i64 defs] w fun e w' => e = .returned (.bool (ownB op n vars defs)) ∧ Below w.heap.size w w' := by
  go_enter Try.func115, Try.ntmps115
  go_wp2_with fail
  all_goals go_ret
  all_goals refine ⟨ret_bool ?_, (Below.refl _ _).alloc (Nat.le_refl _) _⟩
  all_goals show (_ : Bool) = ownB op n vars defs
  all_goals unfold ownB
  all_goals simp_all
  all_goals (first | omega | rfl)

theorem own_true (op n vars defs : Int) (c : Value) (w : World) (h : ownB op n vars defs = true) : Calls Try.prog 115 #[.agg #[.int .i64 op, .int .i64 n, c], .int .i64 vars, .int .i64 defs] w fun e w' => e = .returned (.bool true) ∧ Below w.heap.size w w' := by
  have := l1Own_calls op n vars defs c w; rwa [h] at this
theorem own_false (op n vars defs : Int) (c : Value) (w : World) (h : ownB op n vars defs = false) : Calls Try.prog 115 #[.agg #[.int .i64 op, .int .i64 n, c], .int .i64 vars, .int .i64 defs] w fun e w' => e = .returned (.bool false) ∧ Below w.heap.size w w' := by
  have := l1Own_calls op n vars defs c w; rwa [h] at this

theorem l1Kids_below (op : Int) (w : World) : Calls Try.prog 114 #[.int .i64 op] w fun e w' => e = .returned (.int .i64 (arity op)) ∧ Below w.heap.size w w' :=
  (l1Kids_calls op w).mono fun _ _ ⟨h, e⟩ => ⟨h, e ▸ Below.refl _ _⟩
end Go.Proofs.Ytglpehelmlehiaa
