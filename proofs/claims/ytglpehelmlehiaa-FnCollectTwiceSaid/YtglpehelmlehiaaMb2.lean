/-
  THE MODEL's l1At AND l1Number.
-/
import Derived.Test.YtglpehelmlehiaaMb1
import Derived.WalkSmall
import Derived.Deep.RegionLaw
import Derived.Deep.RegionLawGrows
import Derived.Deep.DeepMust
import Derived.Maps.AppendAt
namespace Go.Proofs.Ytglpehelmlehiaa
set_option linter.unusedVariables false
set_option linter.unusedSimpArgs false
open Go.RowKit

set_option maxRecDepth 100000 in
set_option maxHeartbeats 400000 in
theorem l1At_calls (s : ByteArray) (a : Int) (c : Nat) (w : World) (hc : c < 256) :
    Calls Try.prog 139 #[.string s, .int .i64 a, .int .u8 (c : Int)] w fun e w' => e = .returned (.bool (isAtB s a c)) ∧ w = w' := by
  by_cases h0 : 0 ≤ a
  · by_cases h1 : a < s.size
    · obtain ⟨k, rfl⟩ : ∃ k : Nat, a = (k : Int) := ⟨a.toNat, by omega⟩
      have hk : k < s.size := by omega
      have hb := bN_at hk
      have HV : Hid (isAtB s (k : Int) c = (((bN s k : Nat) : Int) == (c : Int))) := by
        unfold Hid isAtB
        rw [decide_eq_true h0, decide_eq_true h1, Int.toNat_natCast, Bool.true_and, Bool.true_and]
        rw [Bool.eq_iff_iff]
        simp
        omega
      rw [HV.out]
      generalize bN s k = b at hb ⊢
      go_enter Try.func139, Try.ntmps139
      go_wp2_with fail
      go_ret
      exact ⟨rfl, rfl⟩
    · have HV : Hid (isAtB s a c = false) := by unfold Hid isAtB; rw [decide_eq_false h1]; simp
      rw [HV.out]
      go_enter Try.func139, Try.ntmps139
      go_wp2_with fail
      go_ret
      exact ⟨rfl, rfl⟩
  · have HV : Hid (isAtB s a c = false) := by unfold Hid isAtB; rw [decide_eq_false h0]; rfl
    rw [HV.out]
    go_enter Try.func139, Try.ntmps139
    go_wp2_with fail
    go_ret
    exact ⟨rfl, rfl⟩

/-- how large a number can be while so many digits are to come -/
def nbT : Nat → Nat
  | 4 => 0
  | 3 => 9
  | 2 => 99
  | 1 => 999
  | _ => 9999
theorem nbT_le (k : Nat) : nbT k ≤ 9999 := by unfold nbT; split <;> omega
theorem nbT_step {k n b : Nat} (hk : k + 1 ≤ 4) (h : n ≤ nbT (k + 1)) (hb : b ≤ 9) : n * 10 + b ≤ nbT k := by
  rcases (by omega : k = 0 ∨ k = 1 ∨ k = 2 ∨ k = 3) with rfl | rfl | rfl | rfl <;> simp only [nbT] at h ⊢ <;> omega
theorem ret_num {r : Nat × Nat} {n e : Nat} (h : r = (n, e)) : Ending.returned (.tuple #[.agg #[.int .i64 2, .int .i64 (n : Int), .slice none 0 0], .int .i64 (e : Int)]) = .returned (.tuple #[.agg #[.int .i64 2, .int .i64 (r.1 : Int), .slice none 0 0], .int .i64 (r.2 : Int)]) := by rw [h]
set_option maxRecDepth 100000 in
set_option maxHeartbeats 1600000 in
theorem l1Number_calls (s : ByteArray) (a : Nat) (w : World) (ha : a ≤ s.size) (hs : s.size ≤ 1099511627776) :
    Calls Try.prog 136 #[.string s, .int .i64 (a : Int)] w fun e w' => e = .returned (.tuple #[.agg #[.int .i64 2, .int .i64 ((numE s 4 a 0).1 : Int), .slice none 0 0], .int .i64 ((numE s 4 a 0).2 : Int)]) ∧ Below w.heap.size w w' := by
  obtain ⟨r, hr⟩ : ∃ r, r = numE s 4 a 0 := ⟨_, rfl⟩
  rw [← hr]
  have HR := mkHid hr
  clear hr
  go_enter Try.func136, Try.ntmps136
  go_wp2_with fail
  go_loopw [6, 7] (fun nv ev wr => ∃ (k e n : Nat), k ≤ 4 ∧ nv = .int .i64 (n : Int) ∧ ev = .int .i64 (e : Int) ∧ e + k = a + 4 ∧ e ≤ s.size ∧ n ≤ nbT k ∧ Hid (r = numE s k e n) ∧ wr = w.alloc (.cells #[.int .i64 0, .int .i64 0, .slice none 0 0] 32)) (fun _ ev _ => a + 4 - (intOf ev).toNat)
  case atStart => exact ⟨4, a, 0, by omega, rfl, rfl, by omega, ha, by simp, HR.out, rfl⟩
  case round =>
    obtain ⟨k, e, n, hk, rfl, rfl, hek, hes, hn, HRR, rfl⟩ := hrel
    have HBX : Hid (Below w.heap.size w (w.alloc (.cells #[.int .i64 0, .int .i64 0, .slice none 0 0] 32))) := box_below _ _
    have hn9 : n ≤ 9999 := Nat.le_trans hn (nbT_le k)
    cases k with
    | zero =>
      have HST : Hid (r = (n, e)) := HRR
      have hea : (a : Int) + 4 ≤ (e : Int) := by omega
      clear hek hn
      by_cases hes2 : e < s.size
      · skip
        have hbk : (w.alloc (.cells #[.int .i64 2, .int .i64 (n : Int), .slice none 0 0] 32)).heap[w.heap.size]? = some (.cells #[.int .i64 2, .int .i64 (n : Int), .slice none 0 0] 32) := Deep.blk_alloc_new _ _
        have y0 := cell_of_blk hbk 0 _ rfl
        have y1 := cell_of_blk hbk 1 _ rfl
        have y2 := cell_of_blk hbk 2 _ rfl
        have yf := fun i => frz_of_blk hbk i
        go_wp2_with fail
        exact bodyPost_ret (v := .tuple #[.agg #[.int .i64 2, .int .i64 (n : Int), .slice none 0 0], .int .i64 (e : Int)]) (by simp [results, Try.results136, go_sem, y0, y1, y2, yf]) rfl ⟨ret_num HST.out, box_below _ _⟩
      · skip
        have hbk : (w.alloc (.cells #[.int .i64 2, .int .i64 (n : Int), .slice none 0 0] 32)).heap[w.heap.size]? = some (.cells #[.int .i64 2, .int .i64 (n : Int), .slice none 0 0] 32) := Deep.blk_alloc_new _ _
        have y0 := cell_of_blk hbk 0 _ rfl
        have y1 := cell_of_blk hbk 1 _ rfl
        have y2 := cell_of_blk hbk 2 _ rfl
        have yf := fun i => frz_of_blk hbk i
        go_wp2_with fail
        exact bodyPost_ret (v := .tuple #[.agg #[.int .i64 2, .int .i64 (n : Int), .slice none 0 0], .int .i64 (e : Int)]) (by simp [results, Try.results136, go_sem, y0, y1, y2, yf]) rfl ⟨ret_num HST.out, box_below _ _⟩
    | succ k =>
      have hea : (e : Int) < (a : Int) + 4 := by omega
      by_cases hes2 : e < s.size
      case neg =>
        have HST : Hid (r = (n, e)) := by rw [Hid, HRR.out, numE, if_neg (by omega)]
        clear hek hn
        have hbk : (w.alloc (.cells #[.int .i64 2, .int .i64 (n : Int), .slice none 0 0] 32)).heap[w.heap.size]? = some (.cells #[.int .i64 2, .int .i64 (n : Int), .slice none 0 0] 32) := Deep.blk_alloc_new _ _
        have y0 := cell_of_blk hbk 0 _ rfl
        have y1 := cell_of_blk hbk 1 _ rfl
        have y2 := cell_of_blk hbk 2 _ rfl
        have yf := fun i => frz_of_blk hbk i
        go_wp2_with fail
        exact bodyPost_ret (v := .tuple #[.agg #[.int .i64 2, .int .i64 (n : Int), .slice none 0 0], .int .i64 (e : Int)]) (by simp [results, Try.results136, go_sem, y0, y1, y2, yf]) rfl ⟨ret_num HST.out, box_below _ _⟩
      have hb := bN_at hes2
      by_cases h48 : 48 ≤ bN s e
      case neg =>
        have HST : Hid (r = (n, e)) := by rw [Hid, HRR.out, numE, if_neg (by omega)]
        generalize bN s e = b at hb h48
        clear hek hn
        have hbk : (w.alloc (.cells #[.int .i64 2, .int .i64 (n : Int), .slice none 0 0] 32)).heap[w.heap.size]? = some (.cells #[.int .i64 2, .int .i64 (n : Int), .slice none 0 0] 32) := Deep.blk_alloc_new _ _
        have y0 := cell_of_blk hbk 0 _ rfl
        have y1 := cell_of_blk hbk 1 _ rfl
        have y2 := cell_of_blk hbk 2 _ rfl
        have yf := fun i => frz_of_blk hbk i
        go_wp2_with fail
        exact bodyPost_ret (v := .tuple #[.agg #[.int .i64 2, .int .i64 (n : Int), .slice none 0 0], .int .i64 (e : Int)]) (by simp [results, Try.results136, go_sem, y0, y1, y2, yf]) rfl ⟨ret_num HST.out, box_below _ _⟩
      by_cases h57 : bN s e ≤ 57
      case neg =>
        have HST : Hid (r = (n, e)) := by rw [Hid, HRR.out, numE, if_neg (by omega)]
        generalize bN s e = b at hb h48 h57
        clear hek hn
        have hbk : (w.alloc (.cells #[.int .i64 2, .int .i64 (n : Int), .slice none 0 0] 32)).heap[w.heap.size]? = some (.cells #[.int .i64 2, .int .i64 (n : Int), .slice none 0 0] 32) := Deep.blk_alloc_new _ _
        have y0 := cell_of_blk hbk 0 _ rfl
        have y1 := cell_of_blk hbk 1 _ rfl
        have y2 := cell_of_blk hbk 2 _ rfl
        have yf := fun i => frz_of_blk hbk i
        go_wp2_with fail
        exact bodyPost_ret (v := .tuple #[.agg #[.int .i64 2, .int .i64 (n : Int), .slice none 0 0], .int .i64 (e : Int)]) (by simp [results, Try.results136, go_sem, y0, y1, y2, yf]) rfl ⟨ret_num HST.out, box_below _ _⟩
      have HR2 : Hid (r = numE s k (e + 1) (n * 10 + (bN s e - 48))) := by rw [Hid, HRR.out, numE, if_pos ⟨hes2, h48, h57⟩]
      have hn2 : n * 10 + (bN s e - 48) ≤ nbT k := nbT_step hk hn (by omega)
      obtain ⟨q, hq⟩ : ∃ q, q = bN s e - 48 := ⟨_, rfl⟩
      rw [← hq] at HR2 hn2
      have hw1 : IntKind.u8.wrap ((bN s e : Int) - 48) = (q : Int) := by rw [IntWalk.u8_in _ (by omega)]; omega
      have hq9 : q ≤ 9 := by omega
      generalize bN s e = b at hb h48 h57 hw1 hq
      clear hq
      go_wp2_with fail
      go_roundw
      case rel => exact ⟨k, e + 1, n * 10 + q, by omega, by go_num, by go_num, by omega, by omega, hn2, HR2, by trivial⟩
      case measure => simp [intOf]; omega
end Go.Proofs.Ytglpehelmlehiaa
/-
  SMALL FACTS ON ROWS OF EXPRESSIONS' CELLS: the element type's row of the table; a new block's cells.
-/
namespace Go.Proofs.Ytglpehelmlehiaa
set_option linter.unusedVariables false
set_option linter.unusedSimpArgs false
open Go.RowKit

theorem news3 (w : World) (a b c : Value) (j : Nat) (u : Value) (h : [a, b, c][j]? = some u) : (w.alloc (.cells #[a, b, c] 32)).cell? ((⟨w.heap.size, 0, none⟩ : Addr).add j) = some u := by
  rw [WideShapes.add_plain, Nat.zero_add]
  exact box_cell w #[a, b, c] _ j u (by simpa using h)
theorem infoE3 : ∃ i z, Try.prog.info? 32 = some i ∧ i.zero = some z ∧ i.size = 3 ∧ i.bytes = 40 ∧ z.cells.size = 3 := by
  obtain ⟨i, hi, hzz⟩ := Option.map_eq_some_iff.1 infoE
  simp only [Prod.mk.injEq] at hzz
  obtain ⟨hz, hs, hb⟩ := hzz
  exact ⟨i, _, hi, hz, hs, hb, rfl⟩
end Go.Proofs.Ytglpehelmlehiaa
/-
  LISTS OF TREES THAT A CALL BUILDS BY append: the row that it owns, and the trees elsewhere; append as one step of a region that draws its order, with where the new row lies.
-/
namespace Go.Proofs.Ytglpehelmlehiaa
set_option linter.unusedVariables false
set_option linter.unusedSimpArgs false
open Go.RowKit

/-- a list of trees that a call has built by append: the row is its own, the trees lie elsewhere, all from lo on -/
def OwnTr (w : World) (lo : Nat) (ts : List Tr) (v : Value) : Prop :=
  ∃ xs, w.ownsRow lo 32 3 v ts.length xs ∧ ∀ j (hj : j < ts.length), ∃ a b c, xs[j * 3]? = some a ∧ xs[j * 3 + 1]? = some b ∧ xs[j * 3 + 2]? = some c ∧ TrOn w (fun k => lo ≤ k ∧ k < w.heap.size ∧ some k ≠ v.ownBlock) ts[j] a b c

theorem OwnTr.nil (w : World) (lo : Nat) : OwnTr w lo [] (.slice none 0 0) := ⟨[], World.ownsRow_nil w lo _ _, fun j hj => absurd hj (by simp)⟩

/-- it stays where all blocks from lo on stay -/
theorem OwnTr.next {w w' : World} {lo : Nat} {ts : List Tr} {v : Value} (h : OwnTr w lo ts v) (hsz : w.heap.size ≤ w'.heap.size) (hb : ∀ k, lo ≤ k → k < w.heap.size → w'.heap[k]? = w.heap[k]?) : OwnTr w' lo ts v := by
  obtain ⟨xs, h1, h2⟩ := h
  refine ⟨xs, ⟨h1.1, ?_⟩, fun j hj => ?_⟩
  · rcases h1.2 with h | ⟨g, cap, cur, rfl, hg, hh, r⟩
    · exact Or.inl h
    · exact Or.inr ⟨g, cap, cur, rfl, hg, (hb g hg (Array.getElem?_eq_some_iff.1 hh).1).trans hh, r⟩
  · obtain ⟨a, b, c, e1, e2, e3, e4⟩ := h2 j hj
    exact ⟨a, b, c, e1, e2, e3, e4.mono (fun k hk => ⟨hk.1, Nat.lt_of_lt_of_le hk.2.1 hsz, hk.2.2⟩) (fun k hk => hb k hk.1 hk.2.1)⟩

/-- one tree more -/
theorem OwnTr.step {w w' : World} {lo : Nat} {ts : List Tr} {v v' : Value} {t : Tr} {a b c : Value} (h : OwnTr w lo ts v) (xs : List Value) (hx : w.ownsRow lo 32 3 v ts.length xs) (hlo : lo ≤ w.heap.size)
    (ht : ∀ j (hj : j < ts.length), ∃ a b c, xs[j * 3]? = some a ∧ xs[j * 3 + 1]? = some b ∧ xs[j * 3 + 2]? = some c ∧ TrOn w (fun k => lo ≤ k ∧ k < w.heap.size ∧ some k ≠ v.ownBlock) ts[j] a b c)
    (hn : TrOn w (fun k => lo ≤ k ∧ k < w.heap.size ∧ some k ≠ v.ownBlock) t a b c)
    (hown : w'.ownsRow lo 32 3 v' (ts.length + 1) (xs ++ [a, b, c])) (hg : w.grownBy w' v.ownBlock) (hw : v'.ownBlock = v.ownBlock ∨ ∃ g, v'.ownBlock = some g ∧ w.heap.size ≤ g) : OwnTr w' lo (ts ++ [t]) v' := by
  have hlen := hx.1
  have keep : ∀ (s : Tr) (x y z : Value), TrOn w (fun k => lo ≤ k ∧ k < w.heap.size ∧ some k ≠ v.ownBlock) s x y z → TrOn w' (fun k => lo ≤ k ∧ k < w'.heap.size ∧ some k ≠ v'.ownBlock) s x y z := by
    intro s x y z hs
    refine hs.mono (fun k hk => ⟨hk.1, Nat.lt_of_lt_of_le hk.2.1 hg.size, ?_⟩) (fun k hk => hg.block k hk.2.1 hk.2.2)
    rcases hw with hw | ⟨g, hw, hge⟩
    · rw [hw]; exact hk.2.2
    · rw [hw]; intro e; simp only [Option.some.injEq] at e; have := hk.2.1; omega
  refine ⟨xs ++ [a, b, c], by simpa using hown, fun j hj => ?_⟩
  by_cases hjl : j < ts.length
  · obtain ⟨x, y, z, e1, e2, e3, e4⟩ := ht j hjl
    have l1 : j * 3 + 2 < xs.length := by omega
    refine ⟨x, y, z, ?_, ?_, ?_, ?_⟩
    · rw [List.getElem?_append_left (by omega)]; exact e1
    · rw [List.getElem?_append_left (by omega)]; exact e2
    · rw [List.getElem?_append_left (by omega)]; exact e3
    · rw [List.getElem_append_left hjl]; exact keep _ _ _ _ e4
  · have hj' : j = ts.length := by simp at hj; omega
    subst hj'
    refine ⟨a, b, c, ?_, ?_, ?_, ?_⟩
    · rw [List.getElem?_append_right (by omega)]; simp [hlen]
    · rw [List.getElem?_append_right (by omega)]; simp [hlen]
    · rw [List.getElem?_append_right (by omega)]; simp [hlen]
    · simpa using keep _ _ _ _ hn

/-- the list, as trees in memory -/
theorem OwnTr.kids {w : World} {lo : Nat} {ts : List Tr} {v : Value} (h : OwnTr w lo ts v) : KidsOn w (Btw lo w.heap.size) ts v := by
  obtain ⟨xs, h1, h2⟩ := h
  rcases h1.2 with ⟨rfl, h0⟩ | ⟨g, cap, cur, rfl, hg, hh, hn, hc, hs, htk⟩
  · obtain rfl : ts = [] := List.eq_nil_of_length_eq_zero h0
    exact ⟨none, 0, rfl, Nat.le_refl _, by simp [maxLen], Or.inl rfl⟩
  · refine ⟨_, cap, rfl, hn, hc, Or.inr ⟨g, 0, rfl, ⟨hg, (Array.getElem?_eq_some_iff.1 hh).1⟩, RowOn.of _ _ fun i hi => ?_⟩⟩
    obtain ⟨a, b, c, e1, e2, e3, e4⟩ := h2 i hi
    refine ⟨a, b, c, ?_, ?_, ?_, e4.mono (fun k hk => ⟨hk.1, hk.2.1⟩) (fun _ _ => rfl)⟩
    · rw [Nat.zero_add, h1.cellAt (i * 3) (by omega)]; exact e1
    · rw [Nat.zero_add, h1.cellAt (i * 3 + 1) (by omega)]; exact e2
    · rw [Nat.zero_add, h1.cellAt (i * 3 + 2) (by omega)]; exact e3
end Go.Proofs.Ytglpehelmlehiaa
/-
  append AS A STEP OF THE WALK, WITH WHERE THE NEW ROW LIES.
-/
namespace Go.Proofs.Ytglpehelmlehiaa
set_option linter.unusedVariables false
set_option linter.unusedSimpArgs false
open Go.RowKit

theorem wpList_append_where {P : Program} (w : World) {ops : Array Oper} {rest : List Oper} {o : Oper} {a : Act} {Q : Exit → Act → World → Prop}
    (hg : o.guard = none) (s x : Operand) (t : TypeId) (hop : o.op = Op.call { callee := Callee.builtin Builtin.append, args := #[s, x], argTypes := #[t, t] })
    (base : Nat) (e : TypeId) (i : TypeInfo) (z : Value) (size bytes : Nat) (ht : P.underlying t = some (.slice e)) (hi : P.info? e = some i) (hz : i.zero = some z)
    (hsize : i.size = size) (hby : i.bytes = bytes) (hzs : z.cells.size = size) (hsz : 0 < size)
    (v : Value) (n : Nat) (xs : List Value) (hs : a.eval s = v) (hown : w.ownsRow base e size v n xs)
    (ad : Addr) (m c : Nat) (news : List Value) (hx : a.eval x = .slice (some ad) m c) (hl : news.length = m * size) (hnews : ∀ j u, news[j]? = some u → w.cell? (ad.add j) = some u) (h1 : ∀ u ∈ news, u.oneCell' = true)
    (h63 : n + m ≤ maxLen) (hbytes : (n + m) * bytes ≤ 140737488355328) (hbase : base ≤ w.heap.size) (hm : 0 < m)
    (hK : ∀ v' w', w'.ownsRow base e size v' (n + m) (xs ++ news) → w.grownBy w' v.ownBlock → (v'.ownBlock = v.ownBlock ∨ ∃ g, v'.ownBlock = some g ∧ w.heap.size ≤ g) → wpList P ops Q rest (a.put o.dst v') w') :
    wpList P ops Q (o :: rest) a w := by
  refine wpList_plain hg fun K' hK' => ?_
  obtain ⟨v', w', hrun, r1, r2, r3⟩ := run_append_where (P := P) w base t o.type e i z size bytes ht hi hz hsize hby hzs hsz v n xs hown ad m c news hl hnews h1 h63 hbytes hbase hm
  unfold Oper.wp
  simp [execOp, hop, resolve, invoke, builtin, hs, hx, hrun, Result.andThen]
  exact hK' _ _ (hK v' w' r1 r2 r3)

/-- an owned row that is not empty lies somewhere -/
theorem own_form {w : World} {base n size : Nat} {e : TypeId} {v : Value} {xs : List Value} (h : w.ownsRow base e size v n xs) (hn : 0 < n) : ∃ g cap, v = .slice (some ⟨g, 0, none⟩) n cap ∧ base ≤ g ∧ g < w.heap.size ∧ n ≤ cap ∧ cap ≤ maxLen := by
  rcases h.2 with ⟨-, h0⟩ | ⟨g, cap, cur, rfl, hg, hh, hn', hc, -⟩
  · omega
  · exact ⟨g, cap, rfl, hg, (Array.getElem?_eq_some_iff.1 hh).1, hn', hc⟩
/-- a block of two cells -/
theorem box2_cell (w : World) (C : Array Value) (t : TypeId) (i : Nat) (v : Value) (h : C[i]? = some v) : (w.alloc (.cells C t)).cell? ((⟨w.heap.size, 0, none⟩ : Addr).add i) = some v := by
  rw [WideShapes.add_plain, Nat.zero_add]
  exact box_cell w C t i v h
end Go.Proofs.Ytglpehelmlehiaa
/-
  A WORLD IN WHICH NOTHING BUT SOME BLOCKS HAS BEEN WRITTEN.
-/
namespace Go.Proofs.Ytglpehelmlehiaa
set_option linter.unusedVariables false
set_option linter.unusedSimpArgs false
open Go.RowKit

/-- all blocks but those of a list are as they were -/
structure ButL (fp : List Nat) (w w' : World) : Prop where
  os : w'.os = w.os
  tape : w'.tape = w.tape
  output : w'.output = w.output
  size : w.heap.size ≤ w'.heap.size
  block : ∀ k, k < w.heap.size → k ∉ fp → w'.heap[k]? = w.heap[k]?
theorem ButL.refl (fp : List Nat) (w : World) : ButL fp w w := ⟨rfl, rfl, rfl, Nat.le_refl _, fun _ _ _ => rfl⟩
theorem ButL.trans {fp : List Nat} {a c d : World} (h : ButL fp a c) (k : ButL fp c d) : ButL fp a d :=
  ⟨k.os.trans h.os, k.tape.trans h.tape, k.output.trans h.output, Nat.le_trans h.size k.size, fun i hi hb => (k.block i (Nat.lt_of_lt_of_le hi h.size) hb).trans (h.block i hi hb)⟩
theorem ButL.mono {fp fq : List Nat} {w w' : World} (h : ButL fp w w') (hs : ∀ k ∈ fp, k ∈ fq) : ButL fq w w' := ⟨h.os, h.tape, h.output, h.size, fun k hk hb => h.block k hk fun hm => hb (hs k hm)⟩
theorem ButL.of_below {fp : List Nat} {w w' : World} (h : Below w.heap.size w w') : ButL fp w w' := ⟨h.os, h.tape, h.output, h.size, fun k hk _ => h.block k hk⟩
theorem ButL.below {fp : List Nat} {B : Nat} {w w' : World} (h : ButL fp w w') (hf : ∀ k ∈ fp, B ≤ k) (hB : B ≤ w.heap.size) : Below B w w' :=
  ⟨h.os, h.tape, h.output, h.size, fun k hk => h.block k (by omega) (fun hm => by have := hf k hm; omega)⟩
theorem ButL.setCell {fp : List Nat} (w : World) (b o : Nat) (hb : b ∈ fp) (u : Value) : ButL fp w (w.setCell ⟨b, o, none⟩ u) :=
  ⟨rfl, rfl, rfl, by simp [World.setCell], fun k hk hn => Below.heap_setCell _ _ _ _ (fun e => hn (e ▸ hb))⟩
end Go.Proofs.Ytglpehelmlehiaa
/-
  THE BLOCK OF A ROW THAT A CALL OWNS; three cells of a box.
-/
namespace Go.Proofs.Ytglpehelmlehiaa
set_option linter.unusedVariables false
set_option linter.unusedSimpArgs false
open Go.RowKit

theorem own_some {w : World} {base n size : Nat} {e : TypeId} {v : Value} {xs : List Value} (h : w.ownsRow base e size v n xs) : ∀ k, v.ownBlock = some k → base ≤ k ∧ k < w.heap.size := by
  intro k hk
  rcases h.2 with ⟨rfl, -⟩ | ⟨g, cap, cur, rfl, hb, hh, -⟩
  · simp [Value.ownBlock] at hk
  · simp only [Value.ownBlock, Option.some.injEq] at hk
    subst hk
    exact ⟨hb, (Array.getElem?_eq_some_iff.1 hh).1⟩
theorem box_set {w : World} {B : Nat} {a b c : Value} {T : TypeId} (h : w.heap[B]? = some (.cells #[a, b, c] T)) (v : Value) : (w.setCell ⟨B, 2, none⟩ v).heap[B]? = some (.cells #[a, b, v] T) := by
  simp [World.setCell, Array.getElem?_modify, h]
theorem box_but2 {fp : List Nat} {w w1 : World} {x y z : Value} (h : ButL fp w w1) : ButL fp w (((w1.setCell ⟨w.heap.size, 0, none⟩ x).setCell ⟨w.heap.size, 1, none⟩ y).setCell ⟨w.heap.size, 2, none⟩ z) :=
  ⟨h.os, h.tape, h.output, by simp only [size_setCell]; exact h.size, fun k hk hn => by
    rw [Below.heap_setCell _ _ _ _ (by show k ≠ w.heap.size; omega), Below.heap_setCell _ _ _ _ (by show k ≠ w.heap.size; omega), Below.heap_setCell _ _ _ _ (by show k ≠ w.heap.size; omega)]
    exact h.block k hk hn⟩
end Go.Proofs.Ytglpehelmlehiaa
/-
  AN APPEND TO A ROW OF ONE's OWN, AND WHERE THE NEW ROW LIES: elements of any size.
-/
namespace Go.Proofs.Ytglpehelmlehiaa
set_option linter.unusedVariables false
set_option linter.unusedSimpArgs false
open Go.RowKit

theorem wpList_append_at {ops : Array Oper} {rest : List Oper} {o : Oper} {a : Act} {Q : Exit → Act → World → Prop} (hgd : o.guard = none) (s x : Operand) (t : TypeId)
    (ho : o.op = .call { callee := .builtin .append, args := #[s, x], argTypes := #[t, t] }) (w : World)
    (base : Nat) (e : TypeId) (i : TypeInfo) (z : Value) (size bytes : Nat) (ht : Try.prog.underlying t = some (.slice e)) (hi : Try.prog.info? e = some i) (hz : i.zero = some z)
    (hsize : i.size = size) (hby : i.bytes = bytes) (hzs : z.cells.size = size) (hsz : 0 < size)
    (v : Value) (n : Nat) (xs : List Value) (hs : a.eval s = v) (hown : w.ownsRow base e size v n xs)
    (ad : Addr) (m c : Nat) (news : List Value) (hx : a.eval x = .slice (some ad) m c) (hl : news.length = m * size) (hnews : ∀ j u, news[j]? = some u → w.cell? (ad.add j) = some u) (h1 : ∀ u ∈ news, u.oneCell' = true)
    (h63 : n + m ≤ maxLen) (hbytes : (n + m) * bytes ≤ 140737488355328) (hbase : base ≤ w.heap.size)
    (h : ∀ v' w', w'.ownsRow base e size v' (n + m) (xs ++ news) → w.grownBy w' v.ownBlock → (v' = .slice none 0 0 ↔ v = .slice none 0 0 ∧ m = 0) → (v'.ownBlock = v.ownBlock ∨ v'.ownBlock = some w.heap.size) → wpList Try.prog ops Q rest (a.put o.dst v') w') : wpList Try.prog ops Q (o :: rest) a w := by
  refine wpList_plain hgd fun K hK => ?_
  obtain ⟨v', w', hrun, h2, h3, h4, h5⟩ := run_append_own_at (P := Try.prog) w base t o.type e i z size bytes ht hi hz hsize hby hzs hsz v n xs hown ad m c news hl hnews h1 h63 hbytes hbase
  unfold Oper.wp
  simp [execOp, ho, resolve, invoke, builtin, hs, hx, hrun, Result.andThen]
  exact hK _ _ (h v' w' h2 h3 h4 h5)
end Go.Proofs.Ytglpehelmlehiaa
/-
  THE MODEL's l1Rest AND l1Binary, OF WHAT l1Parse DOES.
-/
namespace Go.Proofs.Ytglpehelmlehiaa
set_option linter.unusedVariables false
set_option linter.unusedSimpArgs false
open Go.RowKit

/-- new plain blocks -/
def PN (lo : Nat) (w : World) : Nat → Prop := fun k => lo ≤ k ∧ k < w.heap.size ∧ ∃ C T, w.heap[k]? = some (.cells C T (0, 0))
theorem PN.go {lo lo' : Nat} {w w' : World} {k : Nat} (h : PN lo w k) (h1 : lo' ≤ lo) (h2 : w'.heap[k]? = w.heap[k]?) : PN lo' w' k := by
  obtain ⟨h3, h4, C, T, h5⟩ := h
  have h6 := h2.trans h5
  exact ⟨Nat.le_trans h1 h3, (Array.getElem?_eq_some_iff.1 h6).1, C, T, h6⟩
/-- a list of trees that a call builds by append: the row is its own, the trees lie in plain blocks elsewhere -/
def OwnTp (w : World) (lo : Nat) (ts : List Tr) (v : Value) : Prop :=
  ∃ xs, w.ownsRow lo 32 3 v ts.length xs ∧ ∀ j (hj : j < ts.length), ∃ a b c, xs[j * 3]? = some a ∧ xs[j * 3 + 1]? = some b ∧ xs[j * 3 + 2]? = some c ∧ TrOn w (fun k => PN lo w k ∧ some k ≠ v.ownBlock) ts[j] a b c
theorem OwnTp.step {w w' : World} {lo : Nat} {ts : List Tr} {v v' : Value} {t : Tr} {a b c : Value} (xs : List Value) (hx : w.ownsRow lo 32 3 v ts.length xs)
    (ht : ∀ j (hj : j < ts.length), ∃ a b c, xs[j * 3]? = some a ∧ xs[j * 3 + 1]? = some b ∧ xs[j * 3 + 2]? = some c ∧ TrOn w (fun k => PN lo w k ∧ some k ≠ v.ownBlock) ts[j] a b c)
    (hn : TrOn w (fun k => PN lo w k ∧ some k ≠ v.ownBlock) t a b c)
    (hown : w'.ownsRow lo 32 3 v' (ts.length + 1) (xs ++ [a, b, c])) (hg : w.grownBy w' v.ownBlock) (hw : v'.ownBlock = v.ownBlock ∨ ∃ g, v'.ownBlock = some g ∧ w.heap.size ≤ g) : OwnTp w' lo (ts ++ [t]) v' := by
  have hlen := hx.1
  have keep : ∀ (s : Tr) (x y z : Value), TrOn w (fun k => PN lo w k ∧ some k ≠ v.ownBlock) s x y z → TrOn w' (fun k => PN lo w' k ∧ some k ≠ v'.ownBlock) s x y z := by
    intro s x y z hs
    refine hs.mono (fun k hk => ⟨hk.1.go (Nat.le_refl _) (hg.block k hk.1.2.1 hk.2), ?_⟩) (fun k hk => hg.block k hk.1.2.1 hk.2)
    rcases hw with hw | ⟨g, hw, hge⟩
    · rw [hw]; exact hk.2
    · rw [hw]; intro e; simp only [Option.some.injEq] at e; have := hk.1.2.1; omega
  refine ⟨xs ++ [a, b, c], by simpa using hown, fun j hj => ?_⟩
  by_cases hjl : j < ts.length
  · obtain ⟨x, y, z, e1, e2, e3, e4⟩ := ht j hjl
    have l1 : j * 3 + 2 < xs.length := by omega
    refine ⟨x, y, z, ?_, ?_, ?_, ?_⟩
    · rw [List.getElem?_append_left (by omega)]; exact e1
    · rw [List.getElem?_append_left (by omega)]; exact e2
    · rw [List.getElem?_append_left (by omega)]; exact e3
    · rw [List.getElem_append_left hjl]; exact keep _ _ _ _ e4
  · have hj' : j = ts.length := by simp at hj; omega
    subst hj'
    refine ⟨a, b, c, ?_, ?_, ?_, ?_⟩
    · rw [List.getElem?_append_right (by omega)]; simp [hlen]
    · rw [List.getElem?_append_right (by omega)]; simp [hlen]
    · rw [List.getElem?_append_right (by omega)]; simp [hlen]
    · simpa using keep _ _ _ _ hn
theorem OwnTp.kids {w : World} {lo : Nat} {ts : List Tr} {v : Value} (h : OwnTp w lo ts v) : KidsOn w (PN lo w) ts v := by
  obtain ⟨xs, h1, h2⟩ := h
  rcases h1.2 with ⟨rfl, h0⟩ | ⟨g, cap, cur, rfl, hg, hh, hn, hc, hs, htk⟩
  · obtain rfl : ts = [] := List.eq_nil_of_length_eq_zero h0
    exact ⟨none, 0, rfl, Nat.le_refl _, by simp [maxLen], Or.inl rfl⟩
  · refine ⟨_, cap, rfl, hn, hc, Or.inr ⟨g, 0, rfl, ⟨hg, (Array.getElem?_eq_some_iff.1 hh).1, _, _, hh⟩, RowOn.of _ _ fun i hi => ?_⟩⟩
    obtain ⟨a, b, c, e1, e2, e3, e4⟩ := h2 i hi
    refine ⟨a, b, c, ?_, ?_, ?_, e4.mono (fun k hk => hk.1) (fun _ _ => rfl)⟩
    · rw [Nat.zero_add, h1.cellAt (i * 3) (by omega)]; exact e1
    · rw [Nat.zero_add, h1.cellAt (i * 3 + 1) (by omega)]; exact e2
    · rw [Nat.zero_add, h1.cellAt (i * 3 + 2) (by omega)]; exact e3

/-- an expression in new memory, and a place -/
def PaRes (r : Tr × Int) (w : World) (e : Ending) (w' : World) : Prop := ∃ kv, e = .returned (.tuple #[.agg #[.int .i64 r.1.op, .int .i64 r.1.num, kv], .int .i64 r.2]) ∧ KidsOn w' (PN w.heap.size w') r.1.kids kv ∧ Below w.heap.size w w'
/-- what l1Parse does, down to some depth -/
def PaSaid (s : ByteArray) (d : Nat) : Prop := ∀ (a : Int) (w : World), -1 ≤ a → a ≤ s.size + 1 → Calls Try.prog 129 #[.string s, .int .i64 a, .int .i64 (d : Int)] w (PaRes (parseT s d a) w)
theorem PRng.i64 {s : ByteArray} {r : Tr × Int} (h : PRng s r) : I64 r.1.op ∧ I64 r.1.num := by
  obtain ⟨-, h2, h3⟩ := h
  exact ⟨⟨by omega, by omega⟩, ⟨by omega, by omega⟩⟩
theorem ret_rest {u v : Value} {a b : Int} (h : u = v) (h' : a = b) : Ending.returned (.tuple #[u, .int .i64 a]) = .returned (.tuple #[v, .int .i64 b]) := by rw [h, h']
/-- operands in new memory, and a place -/
def ReRes (r : List Tr × Int) (w : World) (e : Ending) (w' : World) : Prop := ∃ kv, e = .returned (.tuple #[kv, .int .i64 r.2]) ∧ KidsOn w' (PN w.heap.size w') r.1 kv ∧ Below w.heap.size w w'

set_option maxRecDepth 100000 in
set_option maxHeartbeats 1600000 in
theorem l1Rest_calls (s : ByteArray) (d : Nat) (hs : s.size ≤ 1099511627776) (hP : PaSaid s d) (cs : List Nat) (hcs : cs.length ≤ 3) (hc256 : ∀ c ∈ cs, c < 256) (a0 : Int) (b cap : Nat) (w : World) (h0 : -1 ≤ a0) (h1 : a0 ≤ s.size + 1)
    (hb : ∀ i (hi : i < cs.length), w.cell? ⟨b, i, none⟩ = some (.int .u8 (cs[i] : Int))) (hcap : cs.length ≤ cap) (hcm : cap ≤ maxLen) :
    Calls Try.prog 137 #[.string s, .int .i64 a0, .slice (some ⟨b, 0, none⟩) cs.length cap, .int .i64 (d : Int)] w (ReRes (restT (parseT s d) s cs a0 []) w) := by
  have HP := mkHid hP
  have HC := mkHid hb
  have H256 := mkHid hc256
  obtain ⟨r, hr⟩ : ∃ r, r = restT (parseT s d) s cs a0 [] := ⟨_, rfl⟩
  rw [← hr]
  have HR := mkHid hr
  unfold maxLen at hcm
  obtain ⟨iE, zE, hiE, hzE, hsE, hbE, hcE⟩ := infoE3
  have HE : Hid (Try.prog.info? 32 = some iE ∧ iE.zero = some zE ∧ iE.size = 3 ∧ iE.bytes = 40 ∧ zE.cells.size = 3) := ⟨hiE, hzE, hsE, hbE, hcE⟩
  clear hP hb hc256 hr hiE hzE hsE hbE hcE
  go_enter Try.func137, Try.ntmps137
  go_wp2_with fail
  go_loopw [1, 10, 11] (fun av ov iv wr => ∃ (k : Nat) (a : Int) (out : List Tr), k ≤ cs.length ∧ iv = .int .i64 k ∧ av = .int .i64 a ∧ (-1 ≤ a ∧ a ≤ s.size + 1) ∧ OwnTp wr w.heap.size out ov ∧ out.length = k ∧ Hid (r = restT (parseT s d) s (cs.drop k) a out) ∧ Below w.heap.size w wr) (fun _ _ iv _ => cs.length - (intOf iv).toNat)
  case atStart =>
    refine ⟨0, a0, [], Nat.zero_le _, rfl, rfl, ⟨h0, h1⟩, ⟨[], ⟨rfl, Or.inr ⟨_, 0, #[], rfl, Nat.le_refl _, Deep.blk_alloc_new _ _, Nat.le_refl _, by unfold maxLen; omega, rfl, rfl⟩⟩, fun j hj => absurd hj (by simp)⟩, rfl, HR.out, box_below _ _⟩
  case round =>
    obtain ⟨k, a, out, hk, rfl, rfl, ⟨ha0, ha1⟩, hown, hol, HRR, hbw⟩ := hrel
    have HO := mkHid hown
    have HB := mkHid hbw
    have HOL := mkHid hol
    clear hown hbw hol
    by_cases hlt : k < cs.length
    · obtain ⟨c, hcE⟩ : ∃ c, c = cs[k] := ⟨_, rfl⟩
      have hcc := HC.out k hlt
      rw [← hcE] at hcc
      have c0 := (HB.out.cell (cell_lt hcc)).trans hcc
      have h256 : c < 256 := by rw [hcE]; exact H256.out _ (List.getElem_mem hlt)
      have HDR : Hid (cs.drop k = c :: cs.drop (k + 1)) := by rw [Hid, hcE]; exact List.drop_eq_getElem_cons hlt
      have HRG := mkHid (parseT_rng s d a)
      have HR2 := mkHid HRR.out
      rw [HDR.out] at HR2
      unfold restT at HR2
      obtain ⟨q, hq⟩ : ∃ q, q = parseT s d a := ⟨_, rfl⟩
      have HPC := mkHid (HP.out a wr ha0 ha1)
      rw [← hq] at HRG HR2 HPC
      obtain ⟨x, nx⟩ := q
      have HXI := mkHid HRG.out.i64
      have hnr : -1 ≤ nx ∧ nx ≤ s.size := HRG.out.1
      clear hcE hcc hq HRR
      go_wp2_with fail
      refine HPC.out.mono ?_
      rintro e w1 ⟨kv, rfl, hkv, hb1⟩
      obtain ⟨adk, capk, rfl, -, -, -⟩ := id hkv
      have HKV := mkHid hkv
      have HB1 := mkHid hb1
      have HBW1 : Hid (Below w.heap.size w w1) := HB.out.trans (hb1.mono HB.out.size)
      simp only [] at HR2 ⊢
      obtain ⟨o, ho⟩ : ∃ o, o = x.op := ⟨_, rfl⟩
      obtain ⟨m, hm⟩ : ∃ m, m = x.num := ⟨_, rfl⟩
      obtain ⟨z, hz⟩ : ∃ z, z = x.kids.length := ⟨_, rfl⟩
      rw [← ho, ← hm, ← hz]
      have c1 := old_cell ((HB1.out.cell (cell_lt c0)).trans c0) (.cells #[.int .i64 o, .int .i64 m, .slice adk z capk] 32)
      have HAT := mkHid fun W => l1At_calls s nx c W h256
      have HOM := mkHid (And.intro ho (And.intro hm hz))
      clear hkv hb1 c0 ho hm hz
      go_wp2_with fail
      refine (HAT.out _).mono ?_
      rintro e w2 ⟨rfl, hw2⟩
      rw [← hw2]
      clear hw2
      cases hat : isAtB s nx c with
      | false =>
        have HV : Hid (r = ([], -1)) := by rw [Hid, HR2.out, hat]; rfl
        clear hat
        go_wp2_with fail
        go_ret2
        exact ⟨.slice none 0 0, ret_rest rfl (by rw [HV.out]), by rw [HV.out]; exact ⟨none, 0, rfl, Nat.le_refl _, by simp [maxLen], Or.inl rfl⟩, HBW1.out.trans ((box_below _ _).mono HBW1.out.size)⟩
      | true =>
        have HV : Hid (r = restT (parseT s d) s (cs.drop (k + 1)) (nx + 1) (out ++ [x])) := by rw [Hid, HR2.out, hat]; rfl
        obtain ⟨hn0, hn1⟩ := isAtB_rng hat
        obtain ⟨xs, hx1, hx2⟩ := HO.out
        rw [HOL.out] at hx1
        obtain ⟨wa, hwa⟩ : ∃ wa, wa = w1.alloc (.cells #[.int .i64 o, .int .i64 m, .slice adk z capk] 32) := ⟨_, rfl⟩
        have HWA := mkHid hwa
        have hba : Below w1.heap.size w1 wa := by rw [hwa]; exact box_below _ _
        have hsa : wa.heap.size = w1.heap.size + 1 := by rw [hwa, Deep.nblk_alloc]
        obtain ⟨wc, hwc⟩ : ∃ wc, wc = wa.alloc (.cells #[.int .i64 o, .int .i64 m, .slice adk z capk] 32) := ⟨_, rfl⟩
        have HWC := mkHid hwc
        have hbc : Below wa.heap.size wa wc := by rw [hwc]; exact box_below _ _
        have HBC : Hid (Below wr.heap.size wr wc) := HB1.out.trans ((hba.trans (hbc.mono hba.size)).mono HB1.out.size)
        have HB1C : Hid (Below w1.heap.size w1 wc) := hba.trans (hbc.mono hba.size)
        have HXC : Hid (wc.ownsRow w.heap.size 32 3 u10 k xs) := own_keep hx1 fun j _ hj => HBC.out.block j hj
        have HX2 := mkHid hx2
        have hsz1 := HB1.out.size
        have hszw := HB.out.size
        have hszc := HBC.out.size
        clear hat hx1 hx2 hwa hba hwc hbc
        go_wp2_with (first
          | (at_builtin; rw [← HWA.out, ← HWC.out]; refine wpList_append_at rfl _ _ 30 rfl wc w.heap.size 32 iE zE 3 40 Try.underlying30 HE.out.1 HE.out.2.1 HE.out.2.2.1 HE.out.2.2.2.1 HE.out.2.2.2.2 (by decide) u10 k xs rfl HXC.out ⟨wa.heap.size, 0, none⟩ 1 1 [.int .i64 o, .int .i64 m, .slice adk z capk] (by rw [hsa]; rfl) rfl (fun j u hu => by rw [WideShapes.add_plain, Nat.zero_add, HWC.out]; exact box_cell wa #[.int .i64 o, .int .i64 m, .slice adk z capk] _ j u (by simpa using hu)) (fun u hu => by simp only [List.mem_cons, List.not_mem_nil, or_false] at hu; rcases hu with rfl | rfl | rfl <;> rfl) (by unfold maxLen; omega) (by omega) (by omega) ?_; intro v' w3 hown' hgrow hnil hat; have HX3 := mkHid hown'; have HG3 := mkHid hgrow; have HA3 := mkHid hat; clear hown' hgrow hnil hat)
          | go_in)
        have hHT : ∀ (j : Nat) (hj : j < out.length), ∃ a b c, xs[j * 3]? = some a ∧ xs[j * 3 + 1]? = some b ∧ xs[j * 3 + 2]? = some c ∧ TrOn wc (fun k => PN w.heap.size wc k ∧ some k ≠ u10.ownBlock) out[j] a b c := by
          intro j hj
          obtain ⟨a1, b1, c1, e1, e2, e3, e4⟩ := HX2.out j hj
          exact ⟨a1, b1, c1, e1, e2, e3, e4.mono (fun k hk => ⟨hk.1.go (Nat.le_refl _) (HBC.out.block k hk.1.2.1), hk.2⟩) fun k hk => HBC.out.block k hk.1.2.1⟩
        have hszC := HB1C.out.size
        have hown0 : ∀ g, some g = u10.ownBlock → w.heap.size ≤ g ∧ g < wr.heap.size := by
          intro g e
          obtain ⟨ys, hy, -⟩ := HO.out
          exact own_some hy g e.symm
        have hnew : TrOn wc (fun k => PN w.heap.size wc k ∧ some k ≠ u10.ownBlock) x (.int .i64 o) (.int .i64 m) (.slice adk z capk) := by
          obtain ⟨ho, hm, hz⟩ := HOM.out
          rw [trOn_iff, ho, hm, hz]
          refine ⟨rfl, rfl, HXI.out.1, HXI.out.2, HKV.out.mono (fun k hk => ⟨hk.go hszw (HB1C.out.block k hk.2.1), fun e => ?_⟩) fun k hk => HB1C.out.block k hk.2.1⟩
          have := (hown0 k e).2
          have h2 : wr.heap.size ≤ k := hk.1
          omega
        have hxc : wc.ownsRow w.heap.size 32 3 u10 out.length xs := by rw [HOL.out]; exact HXC.out
        have hgrow := HG3.out
        have hlo : w.heap.size ≤ wc.heap.size := by omega
        refine ⟨⟨k + 1, nx + 1, out ++ [x], hlt, by simp, rfl, ⟨by omega, by omega⟩, OwnTp.step xs hxc hHT hnew (by rw [HOL.out]; exact HX3.out) hgrow ?_, by rw [List.length_append, HOL.out]; rfl, HV.out, ?_⟩, by simp only [intOf]; omega⟩
        · rcases HA3.out with h | h
          · exact Or.inl h
          · exact Or.inr ⟨_, h, Nat.le_refl _⟩
        · exact (HB.out.trans (HBC.out.mono hszw)).grown hgrow hlo fun g e => (hown0 g e.symm).1
    · have hke : k = cs.length := by omega
      have HV : Hid (r = (out, a)) := by rw [Hid, HRR.out, hke, List.drop_length]; rfl
      obtain ⟨ado, capo, hof, -, -, -⟩ := HO.out.kids
      clear hke
      go_wp2_with fail
      go_ret2
      exact ⟨_, ret_rest rfl (by rw [HV.out]), by rw [HV.out]; exact HO.out.kids, HB.out⟩
end Go.Proofs.Ytglpehelmlehiaa
/-
  THE MODEL's l1Binary, OF WHAT l1Parse DOES.
-/
namespace Go.Proofs.Ytglpehelmlehiaa
set_option linter.unusedVariables false
set_option linter.unusedSimpArgs false
open Go.RowKit

theorem kids1 {W W' : World} {S S' : Nat → Prop} {x : Tr} {a b c : Value} {g : Nat} (hx : TrOn W S x a b c) (hc : W'.heap[g]? = some (.cells #[a, b, c] 32)) (hS : ∀ k, S k → S' k) (hk : ∀ k, S k → W'.heap[k]? = W.heap[k]?) (hg : S' g) : KidsOn W' S' [x] (.slice (some ⟨g, 0, none⟩) 1 1) :=
  ⟨_, 1, rfl, Nat.le_refl _, by unfold maxLen; decide, Or.inr ⟨g, 0, rfl, hg, ⟨⟨a, b, c, cell_of_blk hc 0 _ rfl, cell_of_blk hc 1 _ rfl, cell_of_blk hc 2 _ rfl, hx.mono hS hk⟩, trivial⟩⟩⟩
theorem kids2 {W W' : World} {S S' : Nat → Prop} {x y : Tr} {a b c a2 b2 c2 : Value} {g : Nat} (hx : TrOn W S x a b c) (hy : TrOn W S y a2 b2 c2) (hc : W'.heap[g]? = some (.cells #[a, b, c, a2, b2, c2] 32)) (hS : ∀ k, S k → S' k) (hk : ∀ k, S k → W'.heap[k]? = W.heap[k]?) (hg : S' g) : KidsOn W' S' [x, y] (.slice (some ⟨g, 0, none⟩) 2 2) :=
  ⟨_, 2, rfl, Nat.le_refl _, by unfold maxLen; decide, Or.inr ⟨g, 0, rfl, hg, ⟨⟨a, b, c, cell_of_blk hc 0 _ rfl, cell_of_blk hc 1 _ rfl, cell_of_blk hc 2 _ rfl, hx.mono hS hk⟩, ⟨⟨a2, b2, c2, cell_of_blk hc 3 _ rfl, cell_of_blk hc 4 _ rfl, cell_of_blk hc 5 _ rfl, hy.mono hS hk⟩, trivial⟩⟩⟩⟩
theorem PaRes.nil {r : Tr × Int} {w w' : World} (h : r = (nilT, -1)) (hb : Below w.heap.size w w') : PaRes r w (.returned (.tuple #[.agg #[.int .i64 0, .int .i64 0, .slice none 0 0], .int .i64 (-1)])) w' := by
  subst h
  exact ⟨_, rfl, ⟨none, 0, rfl, Nat.le_refl _, by simp [maxLen], Or.inl rfl⟩, hb⟩
/-- what a box of three cells behind a new block keeps -/
theorem set3_heap (W : World) (B : Nat) (a b c : Value) (k : Nat) (h : k ≠ B) : (((W.setCell ⟨B, 0, none⟩ a).setCell ⟨B, 1, none⟩ b).setCell ⟨B, 2, none⟩ c).heap[k]? = W.heap[k]? := by
  rw [Below.heap_setCell _ _ _ _ (by show k ≠ B; exact h), Below.heap_setCell _ _ _ _ (by show k ≠ B; exact h), Below.heap_setCell _ _ _ _ (by show k ≠ B; exact h)]
theorem set3_below {B : Nat} {w W : World} (h : Below B w W) (a b c : Value) : Below B w (((W.setCell ⟨B, 0, none⟩ a).setCell ⟨B, 1, none⟩ b).setCell ⟨B, 2, none⟩ c) :=
  ((h.setCell (Nat.le_refl _) _).setCell (Nat.le_refl _) _).setCell (Nat.le_refl _) _
theorem pa_two {w w1 w3 : World} {x y : Tr} {u n : Int} {kx ky : Value} {o : Obj} (h1 : Below w.heap.size w w1) (hs1 : w.heap.size + 1 ≤ w1.heap.size) (h3 : Below w1.heap.size w1 w3) (hs3 : w1.heap.size + 1 ≤ w3.heap.size)
    (hkx : KidsOn w1 (PN (w.heap.size + 1) w1) x.kids kx) (hix : I64 x.op ∧ I64 x.num) (hky : KidsOn w3 (PN (w1.heap.size + 1) w3) y.kids ky) (hiy : I64 y.op ∧ I64 y.num) :
    PaRes (.node u 0 [x, y], n) w (.returned (.tuple #[.agg #[.int .i64 u, .int .i64 0, .slice (some ⟨w3.heap.size + 1, 0, none⟩) 2 2], .int .i64 n]))
      (((((w3.alloc o).alloc (.cells #[.int .i64 x.op, .int .i64 x.num, kx, .int .i64 y.op, .int .i64 y.num, ky] 32)).setCell ⟨w.heap.size, 0, none⟩ (.int .i64 u)).setCell ⟨w.heap.size, 1, none⟩ (.int .i64 0)).setCell ⟨w.heap.size, 2, none⟩ (.slice (some ⟨w3.heap.size + 1, 0, none⟩) 2 2)) := by
  have hsA : (w3.alloc o).heap.size = w3.heap.size + 1 := by rw [Deep.nblk_alloc]
  have hb : Below w.heap.size w ((w3.alloc o).alloc (.cells #[.int .i64 x.op, .int .i64 x.num, kx, .int .i64 y.op, .int .i64 y.num, ky] 32)) :=
    (h1.trans (h3.mono (by omega))).trans (((box_below w3 o).trans ((box_below _ _).mono (by omega))).mono (by omega))
  have hF := set3_below hb (.int .i64 u) (.int .i64 0) (.slice (some ⟨w3.heap.size + 1, 0, none⟩) 2 2)
  have hsz : w3.heap.size + 2 ≤ (((((w3.alloc o).alloc (.cells #[.int .i64 x.op, .int .i64 x.num, kx, .int .i64 y.op, .int .i64 y.num, ky] 32)).setCell ⟨w.heap.size, 0, none⟩ (.int .i64 u)).setCell ⟨w.heap.size, 1, none⟩ (.int .i64 0)).setCell ⟨w.heap.size, 2, none⟩ (.slice (some ⟨w3.heap.size + 1, 0, none⟩) 2 2)).heap.size := by
    have := (set3_below (Below.refl w.heap.size ((w3.alloc o).alloc (.cells #[.int .i64 x.op, .int .i64 x.num, kx, .int .i64 y.op, .int .i64 y.num, ky] 32))) (.int .i64 u) (.int .i64 0) (.slice (some ⟨w3.heap.size + 1, 0, none⟩) 2 2)).size
    rw [Deep.nblk_alloc, Deep.nblk_alloc] at this
    omega
  have hrow : (((((w3.alloc o).alloc (.cells #[.int .i64 x.op, .int .i64 x.num, kx, .int .i64 y.op, .int .i64 y.num, ky] 32)).setCell ⟨w.heap.size, 0, none⟩ (.int .i64 u)).setCell ⟨w.heap.size, 1, none⟩ (.int .i64 0)).setCell ⟨w.heap.size, 2, none⟩ (.slice (some ⟨w3.heap.size + 1, 0, none⟩) 2 2)).heap[w3.heap.size + 1]? = some (.cells #[.int .i64 x.op, .int .i64 x.num, kx, .int .i64 y.op, .int .i64 y.num, ky] 32) := by
    rw [set3_heap _ _ _ _ _ _ (by omega), ← hsA]
    exact Deep.blk_alloc_new _ _
  have hblk : ∀ k, PN (w.heap.size + 1) w3 k → (((((w3.alloc o).alloc (.cells #[.int .i64 x.op, .int .i64 x.num, kx, .int .i64 y.op, .int .i64 y.num, ky] 32)).setCell ⟨w.heap.size, 0, none⟩ (.int .i64 u)).setCell ⟨w.heap.size, 1, none⟩ (.int .i64 0)).setCell ⟨w.heap.size, 2, none⟩ (.slice (some ⟨w3.heap.size + 1, 0, none⟩) 2 2)).heap[k]? = w3.heap[k]? := by
    intro k hk
    have h1 : w.heap.size + 1 ≤ k := hk.1
    have h2 : k < w3.heap.size := hk.2.1
    rw [set3_heap _ _ _ _ _ _ (by omega), Deep.blk_alloc_lt _ _ _ (by omega), Deep.blk_alloc_lt _ _ _ h2]
  refine ⟨_, rfl, kids2 (W := w3) (S := PN (w.heap.size + 1) w3) (a := .int .i64 x.op) (b := .int .i64 x.num) (c := kx) (a2 := .int .i64 y.op) (b2 := .int .i64 y.num) (c2 := ky) ?_ ?_ ?_ ?_ ?_ ?_, hF⟩
  · exact trOn_iff.2 ⟨rfl, rfl, hix.1, hix.2, hkx.mono (fun k hk => hk.go (Nat.le_refl _) (h3.block k hk.2.1)) fun k hk => h3.block k hk.2.1⟩
  · exact trOn_iff.2 ⟨rfl, rfl, hiy.1, hiy.2, hky.mono (fun k hk => hk.go (by omega) rfl) fun k hk => rfl⟩
  · exact hrow
  · exact fun k hk => hk.go (by omega) (hblk k hk)
  · exact hblk
  · exact ⟨by omega, by omega, _, _, hrow⟩

set_option maxRecDepth 100000 in
set_option maxHeartbeats 1600000 in
theorem l1Binary_calls (s : ByteArray) (d : Nat) (hs : s.size ≤ 1099511627776) (hP : PaSaid s d) (a0 : Int) (w : World) (h0 : -1 ≤ a0) (h1 : a0 ≤ s.size + 1) :
    Calls Try.prog 138 #[.string s, .int .i64 a0, .int .i64 (d : Int)] w (PaRes (binT (parseT s d) s a0) w) := by
  have HP := mkHid hP
  obtain ⟨r, hr⟩ : ∃ r, r = binT (parseT s d) s a0 := ⟨_, rfl⟩
  rw [← hr]
  have HR := mkHid hr
  have HRG := mkHid (parseT_rng s d a0)
  have HPA := mkHid fun W => HP.out a0 W h0 h1
  unfold binT at HR
  obtain ⟨q, hq⟩ : ∃ q, q = parseT s d a0 := ⟨_, rfl⟩
  rw [← hq] at HRG HR HPA
  obtain ⟨x, nx⟩ := q
  have HXI := mkHid HRG.out.i64
  have hnr : -1 ≤ nx ∧ nx ≤ s.size := HRG.out.1
  clear hP hr hq
  go_enter Try.func138, Try.ntmps138
  go_wp2_with fail
  refine (HPA.out _).mono ?_
  rintro e w1 ⟨kv, rfl, hkv, hb1⟩
  obtain ⟨adk, capk, rfl, -, -, -⟩ := id hkv
  have HKV := mkHid hkv
  have HB1 := mkHid hb1
  clear hkv hb1
  simp only [] at HR ⊢
  obtain ⟨o, ho⟩ : ∃ o, o = x.op := ⟨_, rfl⟩
  obtain ⟨m, hm⟩ : ∃ m, m = x.num := ⟨_, rfl⟩
  obtain ⟨z, hz⟩ : ∃ z, z = x.kids.length := ⟨_, rfl⟩
  rw [← ho, ← hm, ← hz]
  have HAT := mkHid fun (c : Nat) (h : c < 256) W => l1At_calls s nx c W h
  have HOM := mkHid (And.intro ho (And.intro hm hz))
  have HPB := mkHid fun (h : nx < s.size) W => HP.out (nx + 1) W (by omega) (by omega)
  have HRG2 := mkHid (parseT_rng s d (nx + 1))
  obtain ⟨q2, hq2⟩ : ∃ q2, q2 = parseT s d (nx + 1) := ⟨_, rfl⟩
  rw [← hq2] at HPB HR HRG2
  obtain ⟨y, ny⟩ := q2
  have HYI := mkHid HRG2.out.i64
  have hny : -1 ≤ ny ∧ ny ≤ s.size := HRG2.out.1
  have HAT2 := mkHid fun W => l1At_calls s ny 41 W (by decide)
  clear ho hm hz hq2
  have HT : Hid (∀ u : Int, u ≠ 0 → nx < s.size → opAtT s nx = u → nx < s.size ∧ r = if isAtB s ny 41 = true then (Tr.node u 0 [x, y], ny + 1) else (nilT, -1)) := by
    intro u h h1 h2
    refine ⟨h1, ?_⟩
    rw [HR.out, h2, if_neg h]
  have HO : Hid (opAtT s nx = if isAtB s nx 32 = true then 4 else if isAtB s nx 43 = true then 8 else if isAtB s nx 45 = true then 9 else 0) := rfl
  have hs1 : w.heap.size + 1 ≤ w1.heap.size := by have := HB1.out.size; rwa [Deep.nblk_alloc] at this
  have hbw1 : Below w.heap.size w w1 := (box_below _ _).trans (HB1.out.mono (by rw [Deep.nblk_alloc]; omega))
  have HBX : Hid (∀ W, Below w1.heap.size w1 W → W.heap[w.heap.size]? = some (.cells #[.int .i64 0, .int .i64 0, .slice none 0 0] 32)) := fun W hb => (hb.block _ (by omega)).trans ((HB1.out.block _ (by rw [Deep.nblk_alloc]; omega)).trans (Deep.blk_alloc_new _ _))
  have HBW1 := mkHid hbw1
  have HA1 : Hid (Below w1.heap.size w1 (w1.alloc (.cells #[.int .i64 o, .int .i64 m, .slice adk z capk] 32))) := box_below _ _
  have HD1 : Hid ((w1.alloc (.cells #[.int .i64 o, .int .i64 m, .slice adk z capk] 32)).heap[w1.heap.size]? = some (.cells #[.int .i64 o, .int .i64 m, .slice adk z capk] 32)) := Deep.blk_alloc_new _ _
  clear hbw1
  go_wp2_with fail
  refine ((HAT.out 32 (by decide)) _).mono ?_
  rintro e w2 ⟨rfl, hw2⟩
  rw [← hw2]
  clear hw2
  cases hA : isAtB s nx 32 with
  | true =>
    have HV := mkHid (HT.out 4 (by decide) (isAtB_rng hA).2 (by rw [HO.out, if_pos hA]))
    go_wp2_with fail
    refine (HPB.out HV.out.1 _).mono ?_
    rintro e w3 ⟨kv2, rfl, hkv2, hb3⟩
    obtain ⟨adl, capl, rfl, -, -, -⟩ := id hkv2
    have HKV2 := mkHid hkv2
    have HB3 := mkHid hb3
    obtain ⟨o2, ho2⟩ : ∃ o2, o2 = y.op := ⟨_, rfl⟩
    obtain ⟨m2, hm2⟩ : ∃ m2, m2 = y.num := ⟨_, rfl⟩
    obtain ⟨z2, hz2⟩ : ∃ z2, z2 = y.kids.length := ⟨_, rfl⟩
    simp only []
    rw [← ho2, ← hm2, ← hz2]
    have HOM2 := mkHid (And.intro ho2 (And.intro hm2 hz2))
    have hs3 : w1.heap.size + 1 ≤ w3.heap.size := by have := HB3.out.size; rwa [Deep.nblk_alloc] at this
    have HB13 : Hid (Below w1.heap.size w1 w3) := HA1.out.trans (hb3.mono (by rw [Deep.nblk_alloc]; omega))
    clear hkv2 hb3 ho2 hm2 hz2
    have HA3 : Hid (Below w3.heap.size w3 (w3.alloc (.cells #[.int .i64 o2, .int .i64 m2, .slice adl z2 capl] 32))) := box_below _ _
    have HBB : Hid (Below w1.heap.size w1 (w3.alloc (.cells #[.int .i64 o2, .int .i64 m2, .slice adl z2 capl] 32))) := HB13.out.trans (HA3.out.mono (by omega))
    have HD8 : Hid ((w3.alloc (.cells #[.int .i64 o2, .int .i64 m2, .slice adl z2 capl] 32)).heap[w1.heap.size]? = some (.cells #[.int .i64 o, .int .i64 m, .slice adk z capk] 32)) := (HA3.out.block _ (by omega)).trans ((HB3.out.block _ (by rw [Deep.nblk_alloc]; omega)).trans HD1.out)
    have HD11 : Hid ((w3.alloc (.cells #[.int .i64 o2, .int .i64 m2, .slice adl z2 capl] 32)).heap[w3.heap.size]? = some (.cells #[.int .i64 o2, .int .i64 m2, .slice adl z2 capl] 32)) := Deep.blk_alloc_new _ _
    have d0 := HBX.out _ HBB.out
    have q0 := cell_of_blk d0 0 _ rfl
    have q1 := cell_of_blk d0 1 _ rfl
    have q2 := cell_of_blk d0 2 _ rfl
    have qf := fun i => frz_of_blk d0 i
    have hsA : (w3.alloc (.cells #[.int .i64 o2, .int .i64 m2, .slice adl z2 capl] 32)).heap.size = w3.heap.size + 1 := by rw [Deep.nblk_alloc]
    have HQ : Hid (∀ O, ((w3.alloc (.cells #[.int .i64 o2, .int .i64 m2, .slice adl z2 capl] 32)).alloc O).heap[w.heap.size]? = some (.cells #[.int .i64 0, .int .i64 0, .slice none 0 0] 32)) := fun O => HBX.out _ (HBB.out.trans ((box_below _ O).mono (by rw [hsA]; omega)))
    have p0 := fun O => cell_of_blk (HQ.out O) 0 _ rfl
    have p1 := fun O => cell_of_blk (HQ.out O) 1 _ rfl
    have p2 := fun O => cell_of_blk (HQ.out O) 2 _ rfl
    have pf := fun O i => frz_of_blk (HQ.out O) i
    have a0' := cell_of_blk HD8.out 0 _ rfl
    have a1' := cell_of_blk HD8.out 1 _ rfl
    have a2' := cell_of_blk HD8.out 2 _ rfl
    have b0' := cell_of_blk HD11.out 0 _ rfl
    have b1' := cell_of_blk HD11.out 1 _ rfl
    have b2' := cell_of_blk HD11.out 2 _ rfl
    clear d0 hsA
    go_wp2_with fail
    refine (HAT2.out _).mono ?_
    rintro e w4 ⟨rfl, hw4⟩
    rw [← hw4]
    clear hw4
    cases hD : isAtB s ny 41 with
    | false =>
      have HN : Hid (r = (nilT, -1)) := by rw [Hid, HV.out.2, hD]; rfl
      go_wp2_with fail
      exact bodyPost_ret (v := .tuple #[.agg #[.int .i64 0, .int .i64 0, .slice none 0 0], .int .i64 (-1)]) (by simp [results, Try.results138, go_sem, q0, q1, q2]) rfl (PaRes.nil HN.out ((((HBW1.out.trans (HBB.out.mono (by omega))).setCell (Nat.le_refl _) _).setCell (Nat.le_refl _) _).setCell (Nat.le_refl _) _))
    | true =>
      have HN : Hid (r = (Tr.node 4 0 [x, y], ny + 1)) := by rw [Hid, HV.out.2, hD]; rfl
      have hny2 := isAtB_rng hD
      go_wp2_with fail
      obtain ⟨ho, hm, hz⟩ := HOM.out
      obtain ⟨ho2, hm2, hz2⟩ := HOM2.out
      refine bodyPost_ret (v := .tuple #[.agg #[.int .i64 4, .int .i64 0, .slice (some ⟨w3.heap.size + 1, 0, none⟩) 2 2], .int .i64 (ny + 1)]) (by simp [results, Try.results138, go_sem, p0, p1, p2]) rfl ?_
      rw [HN.out, ho, hm, ho2, hm2, hz, hz2]
      exact pa_two HBW1.out hs1 HB13.out hs3 (by have h := HKV.out; rwa [Deep.nblk_alloc] at h) HXI.out (by have h := HKV2.out; rwa [Deep.nblk_alloc] at h) HYI.out
  | false =>
    go_wp2_with fail
    refine ((HAT.out 43 (by decide)) _).mono ?_
    rintro e w2 ⟨rfl, hw2⟩
    rw [← hw2]
    clear hw2
    cases hB : isAtB s nx 43 with
    | true =>
      have HV := mkHid (HT.out 8 (by decide) (isAtB_rng hB).2 (by rw [HO.out, if_neg (by rw [hA]; decide), if_pos hB]))
      go_wp2_with fail
      refine (HPB.out HV.out.1 _).mono ?_
      rintro e w3 ⟨kv2, rfl, hkv2, hb3⟩
      obtain ⟨adl, capl, rfl, -, -, -⟩ := id hkv2
      have HKV2 := mkHid hkv2
      have HB3 := mkHid hb3
      obtain ⟨o2, ho2⟩ : ∃ o2, o2 = y.op := ⟨_, rfl⟩
      obtain ⟨m2, hm2⟩ : ∃ m2, m2 = y.num := ⟨_, rfl⟩
      obtain ⟨z2, hz2⟩ : ∃ z2, z2 = y.kids.length := ⟨_, rfl⟩
      simp only []
      rw [← ho2, ← hm2, ← hz2]
      have HOM2 := mkHid (And.intro ho2 (And.intro hm2 hz2))
      have hs3 : w1.heap.size + 1 ≤ w3.heap.size := by have := HB3.out.size; rwa [Deep.nblk_alloc] at this
      have HB13 : Hid (Below w1.heap.size w1 w3) := HA1.out.trans (hb3.mono (by rw [Deep.nblk_alloc]; omega))
      clear hkv2 hb3 ho2 hm2 hz2
      have HA3 : Hid (Below w3.heap.size w3 (w3.alloc (.cells #[.int .i64 o2, .int .i64 m2, .slice adl z2 capl] 32))) := box_below _ _
      have HBB : Hid (Below w1.heap.size w1 (w3.alloc (.cells #[.int .i64 o2, .int .i64 m2, .slice adl z2 capl] 32))) := HB13.out.trans (HA3.out.mono (by omega))
      have HD8 : Hid ((w3.alloc (.cells #[.int .i64 o2, .int .i64 m2, .slice adl z2 capl] 32)).heap[w1.heap.size]? = some (.cells #[.int .i64 o, .int .i64 m, .slice adk z capk] 32)) := (HA3.out.block _ (by omega)).trans ((HB3.out.block _ (by rw [Deep.nblk_alloc]; omega)).trans HD1.out)
      have HD11 : Hid ((w3.alloc (.cells #[.int .i64 o2, .int .i64 m2, .slice adl z2 capl] 32)).heap[w3.heap.size]? = some (.cells #[.int .i64 o2, .int .i64 m2, .slice adl z2 capl] 32)) := Deep.blk_alloc_new _ _
      have d0 := HBX.out _ HBB.out
      have q0 := cell_of_blk d0 0 _ rfl
      have q1 := cell_of_blk d0 1 _ rfl
      have q2 := cell_of_blk d0 2 _ rfl
      have qf := fun i => frz_of_blk d0 i
      have hsA : (w3.alloc (.cells #[.int .i64 o2, .int .i64 m2, .slice adl z2 capl] 32)).heap.size = w3.heap.size + 1 := by rw [Deep.nblk_alloc]
      have HQ : Hid (∀ O, ((w3.alloc (.cells #[.int .i64 o2, .int .i64 m2, .slice adl z2 capl] 32)).alloc O).heap[w.heap.size]? = some (.cells #[.int .i64 0, .int .i64 0, .slice none 0 0] 32)) := fun O => HBX.out _ (HBB.out.trans ((box_below _ O).mono (by rw [hsA]; omega)))
      have p0 := fun O => cell_of_blk (HQ.out O) 0 _ rfl
      have p1 := fun O => cell_of_blk (HQ.out O) 1 _ rfl
      have p2 := fun O => cell_of_blk (HQ.out O) 2 _ rfl
      have pf := fun O i => frz_of_blk (HQ.out O) i
      have a0' := cell_of_blk HD8.out 0 _ rfl
      have a1' := cell_of_blk HD8.out 1 _ rfl
      have a2' := cell_of_blk HD8.out 2 _ rfl
      have b0' := cell_of_blk HD11.out 0 _ rfl
      have b1' := cell_of_blk HD11.out 1 _ rfl
      have b2' := cell_of_blk HD11.out 2 _ rfl
      clear d0 hsA
      go_wp2_with fail
      refine (HAT2.out _).mono ?_
      rintro e w4 ⟨rfl, hw4⟩
      rw [← hw4]
      clear hw4
      cases hD : isAtB s ny 41 with
      | false =>
        have HN : Hid (r = (nilT, -1)) := by rw [Hid, HV.out.2, hD]; rfl
        go_wp2_with fail
        exact bodyPost_ret (v := .tuple #[.agg #[.int .i64 0, .int .i64 0, .slice none 0 0], .int .i64 (-1)]) (by simp [results, Try.results138, go_sem, q0, q1, q2]) rfl (PaRes.nil HN.out ((((HBW1.out.trans (HBB.out.mono (by omega))).setCell (Nat.le_refl _) _).setCell (Nat.le_refl _) _).setCell (Nat.le_refl _) _))
      | true =>
        have HN : Hid (r = (Tr.node 8 0 [x, y], ny + 1)) := by rw [Hid, HV.out.2, hD]; rfl
        have hny2 := isAtB_rng hD
        go_wp2_with fail
        obtain ⟨ho, hm, hz⟩ := HOM.out
        obtain ⟨ho2, hm2, hz2⟩ := HOM2.out
        refine bodyPost_ret (v := .tuple #[.agg #[.int .i64 8, .int .i64 0, .slice (some ⟨w3.heap.size + 1, 0, none⟩) 2 2], .int .i64 (ny + 1)]) (by simp [results, Try.results138, go_sem, p0, p1, p2]) rfl ?_
        rw [HN.out, ho, hm, ho2, hm2, hz, hz2]
        exact pa_two HBW1.out hs1 HB13.out hs3 (by have h := HKV.out; rwa [Deep.nblk_alloc] at h) HXI.out (by have h := HKV2.out; rwa [Deep.nblk_alloc] at h) HYI.out
    | false =>
      go_wp2_with fail
      refine ((HAT.out 45 (by decide)) _).mono ?_
      rintro e w2 ⟨rfl, hw2⟩
      rw [← hw2]
      clear hw2
      cases hC : isAtB s nx 45 with
      | true =>
        have HV := mkHid (HT.out 9 (by decide) (isAtB_rng hC).2 (by rw [HO.out, if_neg (by rw [hA]; decide), if_neg (by rw [hB]; decide), if_pos hC]))
        go_wp2_with fail
        refine (HPB.out HV.out.1 _).mono ?_
        rintro e w3 ⟨kv2, rfl, hkv2, hb3⟩
        obtain ⟨adl, capl, rfl, -, -, -⟩ := id hkv2
        have HKV2 := mkHid hkv2
        have HB3 := mkHid hb3
        obtain ⟨o2, ho2⟩ : ∃ o2, o2 = y.op := ⟨_, rfl⟩
        obtain ⟨m2, hm2⟩ : ∃ m2, m2 = y.num := ⟨_, rfl⟩
        obtain ⟨z2, hz2⟩ : ∃ z2, z2 = y.kids.length := ⟨_, rfl⟩
        simp only []
        rw [← ho2, ← hm2, ← hz2]
        have HOM2 := mkHid (And.intro ho2 (And.intro hm2 hz2))
        have hs3 : w1.heap.size + 1 ≤ w3.heap.size := by have := HB3.out.size; rwa [Deep.nblk_alloc] at this
        have HB13 : Hid (Below w1.heap.size w1 w3) := HA1.out.trans (hb3.mono (by rw [Deep.nblk_alloc]; omega))
        clear hkv2 hb3 ho2 hm2 hz2
        have HA3 : Hid (Below w3.heap.size w3 (w3.alloc (.cells #[.int .i64 o2, .int .i64 m2, .slice adl z2 capl] 32))) := box_below _ _
        have HBB : Hid (Below w1.heap.size w1 (w3.alloc (.cells #[.int .i64 o2, .int .i64 m2, .slice adl z2 capl] 32))) := HB13.out.trans (HA3.out.mono (by omega))
        have HD8 : Hid ((w3.alloc (.cells #[.int .i64 o2, .int .i64 m2, .slice adl z2 capl] 32)).heap[w1.heap.size]? = some (.cells #[.int .i64 o, .int .i64 m, .slice adk z capk] 32)) := (HA3.out.block _ (by omega)).trans ((HB3.out.block _ (by rw [Deep.nblk_alloc]; omega)).trans HD1.out)
        have HD11 : Hid ((w3.alloc (.cells #[.int .i64 o2, .int .i64 m2, .slice adl z2 capl] 32)).heap[w3.heap.size]? = some (.cells #[.int .i64 o2, .int .i64 m2, .slice adl z2 capl] 32)) := Deep.blk_alloc_new _ _
        have d0 := HBX.out _ HBB.out
        have q0 := cell_of_blk d0 0 _ rfl
        have q1 := cell_of_blk d0 1 _ rfl
        have q2 := cell_of_blk d0 2 _ rfl
        have qf := fun i => frz_of_blk d0 i
        have hsA : (w3.alloc (.cells #[.int .i64 o2, .int .i64 m2, .slice adl z2 capl] 32)).heap.size = w3.heap.size + 1 := by rw [Deep.nblk_alloc]
        have HQ : Hid (∀ O, ((w3.alloc (.cells #[.int .i64 o2, .int .i64 m2, .slice adl z2 capl] 32)).alloc O).heap[w.heap.size]? = some (.cells #[.int .i64 0, .int .i64 0, .slice none 0 0] 32)) := fun O => HBX.out _ (HBB.out.trans ((box_below _ O).mono (by rw [hsA]; omega)))
        have p0 := fun O => cell_of_blk (HQ.out O) 0 _ rfl
        have p1 := fun O => cell_of_blk (HQ.out O) 1 _ rfl
        have p2 := fun O => cell_of_blk (HQ.out O) 2 _ rfl
        have pf := fun O i => frz_of_blk (HQ.out O) i
        have a0' := cell_of_blk HD8.out 0 _ rfl
        have a1' := cell_of_blk HD8.out 1 _ rfl
        have a2' := cell_of_blk HD8.out 2 _ rfl
        have b0' := cell_of_blk HD11.out 0 _ rfl
        have b1' := cell_of_blk HD11.out 1 _ rfl
        have b2' := cell_of_blk HD11.out 2 _ rfl
        clear d0 hsA
        go_wp2_with fail
        refine (HAT2.out _).mono ?_
        rintro e w4 ⟨rfl, hw4⟩
        rw [← hw4]
        clear hw4
        cases hD : isAtB s ny 41 with
        | false =>
          have HN : Hid (r = (nilT, -1)) := by rw [Hid, HV.out.2, hD]; rfl
          go_wp2_with fail
          exact bodyPost_ret (v := .tuple #[.agg #[.int .i64 0, .int .i64 0, .slice none 0 0], .int .i64 (-1)]) (by simp [results, Try.results138, go_sem, q0, q1, q2]) rfl (PaRes.nil HN.out ((((HBW1.out.trans (HBB.out.mono (by omega))).setCell (Nat.le_refl _) _).setCell (Nat.le_refl _) _).setCell (Nat.le_refl _) _))
        | true =>
          have HN : Hid (r = (Tr.node 9 0 [x, y], ny + 1)) := by rw [Hid, HV.out.2, hD]; rfl
          have hny2 := isAtB_rng hD
          go_wp2_with fail
          obtain ⟨ho, hm, hz⟩ := HOM.out
          obtain ⟨ho2, hm2, hz2⟩ := HOM2.out
          refine bodyPost_ret (v := .tuple #[.agg #[.int .i64 9, .int .i64 0, .slice (some ⟨w3.heap.size + 1, 0, none⟩) 2 2], .int .i64 (ny + 1)]) (by simp [results, Try.results138, go_sem, p0, p1, p2]) rfl ?_
          rw [HN.out, ho, hm, ho2, hm2, hz, hz2]
          exact pa_two HBW1.out hs1 HB13.out hs3 (by have h := HKV.out; rwa [Deep.nblk_alloc] at h) HXI.out (by have h := HKV2.out; rwa [Deep.nblk_alloc] at h) HYI.out
      | false =>
        have HV : Hid (r = (nilT, -1)) := by rw [Hid, HR.out, HO.out, hA, hB, hC]; rfl
        have d0 := HBX.out _ HA1.out
        have q0 := cell_of_blk d0 0 _ rfl
        have q1 := cell_of_blk d0 1 _ rfl
        have q2 := cell_of_blk d0 2 _ rfl
        have qf := fun i => frz_of_blk d0 i
        clear d0
        go_wp2_with fail
        exact bodyPost_ret (v := .tuple #[.agg #[.int .i64 0, .int .i64 0, .slice none 0 0], .int .i64 (-1)]) (by simp [results, Try.results138, go_sem, q0, q1, q2]) rfl (PaRes.nil HV.out ((((HBW1.out.trans (HA1.out.mono (by omega))).setCell (Nat.le_refl _) _).setCell (Nat.le_refl _) _).setCell (Nat.le_refl _) _))
end Go.Proofs.Ytglpehelmlehiaa
/-
  THE MODEL's l1Parse.
-/
namespace Go.Proofs.Ytglpehelmlehiaa
set_option linter.unusedVariables false
set_option linter.unusedSimpArgs false
open Go.RowKit

theorem parseT_at {s : ByteArray} {k b : Nat} (d : Nat) (hk : k < s.size) (hb : b = bN s k) : parseT s (d + 1) (k : Int) =
    if 97 ≤ b ∧ b ≤ 122 then (.node 1 ((b : Int) - 97) [], (k : Int) + 1)
    else if 65 ≤ b ∧ b ≤ 90 then (.node 3 ((b : Int) - 65) [], (k : Int) + 1)
    else if 48 ≤ b ∧ b ≤ 57 then (.node 2 (numE s 4 k 0).1 [], (numE s 4 k 0).2)
    else if b = 126 then (.node 6 0 [(parseT s d ((k : Int) + 1)).1], (parseT s d ((k : Int) + 1)).2)
    else if b = 94 then (.node 7 0 [(parseT s d ((k : Int) + 1)).1], (parseT s d ((k : Int) + 1)).2)
    else if b = 60 then (.node 5 0 (restT (parseT s d) s [44, 62] ((k : Int) + 1) []).1, (restT (parseT s d) s [44, 62] ((k : Int) + 1) []).2)
    else if b = 91 then (.node 10 0 (restT (parseT s d) s [63, 58, 93] ((k : Int) + 1) []).1, (restT (parseT s d) s [63, 58, 93] ((k : Int) + 1) []).2)
    else if b = 40 then binT (parseT s d) s ((k : Int) + 1)
    else (nilT, -1) := by
  rw [parseT, if_neg (by omega), Int.toNat_natCast, ← hb]
theorem parseT_out {s : ByteArray} {a : Int} (d : Nat) (h : a < 0 ∨ (s.size : Int) ≤ a) : parseT s (d + 1) a = (nilT, -1) := by rw [parseT, if_pos h]

/-- a leaf in a box -/
theorem PaRes.leaf {r : Tr × Int} {w w' : World} {o m n : Int} (h : r = (.node o m [], n)) (hb : Below w.heap.size w w') : PaRes r w (.returned (.tuple #[.agg #[.int .i64 o, .int .i64 m, .slice none 0 0], .int .i64 n])) w' := by
  subst h
  exact ⟨_, rfl, ⟨none, 0, rfl, Nat.le_refl _, by simp [maxLen], Or.inl rfl⟩, hb⟩

set_option maxRecDepth 100000 in
set_option maxHeartbeats 400000 in
theorem l1Parse_zero (s : ByteArray) : PaSaid s 0 := by
  intro a w h0 h1
  have HV : Hid (parseT s 0 a = (nilT, -1)) := rfl
  obtain ⟨r, hr⟩ : ∃ r, r = parseT s 0 a := ⟨_, rfl⟩
  rw [← hr]
  rw [Hid, ← hr] at HV
  have HV : Hid (r = (nilT, -1)) := HV
  clear hr
  go_enter Try.func129, Try.ntmps129
  have hbk : (w.alloc (.cells #[.int .i64 0, .int .i64 0, .slice none 0 0] 32)).heap[w.heap.size]? = some (.cells #[.int .i64 0, .int .i64 0, .slice none 0 0] 32) := Deep.blk_alloc_new _ _
  have y0 := cell_of_blk hbk 0 _ rfl
  have y1 := cell_of_blk hbk 1 _ rfl
  have y2 := cell_of_blk hbk 2 _ rfl
  have yf := fun i => frz_of_blk hbk i
  go_wp2_with fail
  exact bodyPost_ret (v := .tuple #[.agg #[.int .i64 0, .int .i64 0, .slice none 0 0], .int .i64 (-1)]) (by simp [results, Try.results129, go_sem, y0, y1, y2, yf]) rfl (PaRes.nil HV.out (box_below _ _))

set_option maxRecDepth 100000 in
set_option maxHeartbeats 1600000 in
theorem l1Parse_none (s : ByteArray) (d : Nat) (hd : d ≤ 1000) (a : Int) (w : World) (hs : s.size ≤ 1099511627776) (h : a < 0 ∨ (s.size : Int) ≤ a) : Calls Try.prog 129 #[.string s, .int .i64 a, .int .i64 ((d + 1 : Nat) : Int)] w (PaRes (parseT s (d + 1) a) w) := by
  obtain ⟨r, hr⟩ : ∃ r, r = parseT s (d + 1) a := ⟨_, rfl⟩
  rw [← hr]
  have HV : Hid (r = (nilT, -1)) := by rw [Hid, hr, parseT_out d h]
  have hd1 : decide (((d + 1 : Nat) : Int) < 1) = false := by simp; omega
  have hd2 : ¬ ((d : Int) + 1 < 1) := by omega
  clear hr
  rcases h with h | h
  · go_enter Try.func129, Try.ntmps129
    have hbk : (w.alloc (.cells #[.int .i64 0, .int .i64 0, .slice none 0 0] 32)).heap[w.heap.size]? = some (.cells #[.int .i64 0, .int .i64 0, .slice none 0 0] 32) := Deep.blk_alloc_new _ _
    have y0 := cell_of_blk hbk 0 _ rfl
    have y1 := cell_of_blk hbk 1 _ rfl
    have y2 := cell_of_blk hbk 2 _ rfl
    have yf := fun i => frz_of_blk hbk i
    go_wp2_with fail
    exact bodyPost_ret (v := .tuple #[.agg #[.int .i64 0, .int .i64 0, .slice none 0 0], .int .i64 (-1)]) (by simp [results, Try.results129, go_sem, y0, y1, y2, yf]) rfl (PaRes.nil HV.out (box_below _ _))
  · have hn0 : ¬ a < 0 := by omega
    go_enter Try.func129, Try.ntmps129
    have hbk : (w.alloc (.cells #[.int .i64 0, .int .i64 0, .slice none 0 0] 32)).heap[w.heap.size]? = some (.cells #[.int .i64 0, .int .i64 0, .slice none 0 0] 32) := Deep.blk_alloc_new _ _
    have y0 := cell_of_blk hbk 0 _ rfl
    have y1 := cell_of_blk hbk 1 _ rfl
    have y2 := cell_of_blk hbk 2 _ rfl
    have yf := fun i => frz_of_blk hbk i
    go_wp2_with fail
    exact bodyPost_ret (v := .tuple #[.agg #[.int .i64 0, .int .i64 0, .slice none 0 0], .int .i64 (-1)]) (by simp [results, Try.results129, go_sem, y0, y1, y2, yf]) rfl (PaRes.nil HV.out (box_below _ _))
end Go.Proofs.Ytglpehelmlehiaa
