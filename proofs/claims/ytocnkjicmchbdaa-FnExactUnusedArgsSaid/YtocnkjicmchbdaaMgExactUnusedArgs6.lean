/-
  THE MARKS IN SLICES OF INTS: the laws' markIntS and heldIntS.
-/
import Derived.Test.YtocnkjicmchbdaaMgExactUnusedArgs5
import Derived.Test.YtocnkjicmchbdaaMgExactUnusedArgs2
import Derived.Deep.RegionLaw
import Derived.Deep.RegionLawGrows
import Derived.Deep.DeepMust
import Derived.Deep.LoopGhost
import Derived.Deep.QuietTactic
import Derived.Deep.RegionWith
import Derived.BigQuiet
import Derived.WalkSmall
import Derived.Test.YtocnkjicmchbdaaMgExactUnusedArgs4
import Derived.Test.YtocnkjicmchbdaaMgExactUnusedArgs1
namespace Go.Proofs.Ytocnkjicmchbdaa
set_option linter.unusedVariables false
set_option linter.unusedSimpArgs false
open Go.RowKit

/-- the numbers from k on -/
def upFrom (k : Int) : Nat → List Int
  | 0 => []
  | n + 1 => k :: upFrom (k + 1) n
theorem upFrom_length : ∀ (n : Nat) (k : Int), (upFrom k n).length = n
  | 0, _ => rfl
  | n + 1, k => by simp [upFrom, upFrom_length n]
theorem upFrom_get : ∀ (n : Nat) (k : Int) (i : Nat) (h : i < (upFrom k n).length), (upFrom k n)[i] = k + i
  | 0, _, _, h => by simp [upFrom] at h
  | n + 1, k, 0, _ => by simp [upFrom]
  | n + 1, k, i + 1, h => by
    have := upFrom_get n (k + 1) i (by simpa [upFrom] using h)
    simp only [upFrom, List.getElem_cons_succ, this]
    push_cast
    omega

/-- what holds behind j rounds of the marking -/
def IMRel (w : World) (lo : Nat) (xs : List Int) (k : Int) (ad : Option Addr) (cap j : Nat) (wr : World) : Prop :=
  Below lo w wr ∧ (xs = [] ∨ ∃ g f, ad = some ⟨g, 0, none⟩ ∧ lo ≤ g ∧ wr.rowIs g 3 cap f ∧ xs.length ≤ cap ∧ ∀ i, i < j → f i = .int .i64 (k + (i : Int)))
theorem IMRel.start {w : World} {lo : Nat} {xs : List Int} {k : Int} {ad : Option Addr} {cap : Nat} (h : IntRow w lo xs (.slice ad xs.length cap)) : IMRel w lo xs k ad cap 0 w := by
  obtain ⟨_, _, he, l1, -, h⟩ := h
  cases he
  refine ⟨Below.refl _ _, h.imp id ?_⟩
  rintro ⟨g, f, rfl, hg, hr, -⟩
  exact ⟨g, f, rfl, hg, hr, l1, fun i hi => absurd hi (by omega)⟩
theorem IMRel.step {w wr : World} {lo : Nat} {xs : List Int} {k : Int} {g cap j : Nat} (h : IMRel w lo xs k (some ⟨g, 0, none⟩) cap j wr) (hj : j < xs.length) : IMRel w lo xs k (some ⟨g, 0, none⟩) cap (j + 1) (wr.setCell ⟨g, j, none⟩ (.int .i64 (k + (j : Int)))) := by
  obtain ⟨hb, h⟩ := h
  rcases h with rfl | ⟨g', f, e, hg, hr, hl, hf⟩
  · simp at hj
  · simp only [Option.some.injEq, Addr.mk.injEq, and_true] at e
    subst e
    refine ⟨hb.setCell hg _, Or.inr ⟨g, _, rfl, hg, hr.set j _, hl, fun i hi => ?_⟩⟩
    by_cases hij : i = j
    · subst hij; simp
    · simp [hij, hf i (by omega)]
theorem IMRel.done {w wr : World} {lo : Nat} {xs : List Int} {k : Int} {ad : Option Addr} {cap : Nat} (h : IMRel w lo xs k ad cap xs.length wr) (hm : cap ≤ maxLen) (hl : xs.length ≤ cap) : IntRow wr lo (upFrom k xs.length) (.slice ad xs.length cap) ∧ Below lo w wr := by
  obtain ⟨hb, h⟩ := h
  refine ⟨⟨ad, cap, by rw [upFrom_length], by rw [upFrom_length]; exact hl, hm, ?_⟩, hb⟩
  rcases h with rfl | ⟨g, f, rfl, hg, hr, -, hf⟩
  · exact Or.inl rfl
  · refine Or.inr ⟨g, f, rfl, hg, hr, fun i hi => ?_⟩
    rw [upFrom_get]
    rw [upFrom_length] at hi
    exact hf i hi

set_option maxHeartbeats 400000 in
theorem markInts_calls (xs : List Int) (lo : Nat) (c : Value) (k : Int) (w : World) (hc : IntRow w lo xs c) (h0 : 0 ≤ k) (h1 : k + (xs.length : Int) ≤ 1152921504606846976) :
    Calls Try.prog 41 #[c, .int .i64 k] w fun e w' => e = .returned (.int .i64 (k + (xs.length : Int))) ∧ IntRow w' lo (upFrom k xs.length) c ∧ Below lo w w' := by
  have HC : Hid (IntRow w lo xs c) := hc
  obtain ⟨ad, cap, rfl, hl, hm, -⟩ := hc
  unfold maxLen at hm
  go_enter Try.func41, Try.ntmps41
  go_wp2_with fail
  go_loopw [1, 5] (fun q i wr => ∃ j : Nat, j ≤ xs.length ∧ i = .int .i64 j ∧ q = .int .i64 (k + j) ∧ IMRel w lo xs k ad cap j wr) (fun _ i _ => xs.length - (intOf i).toNat)
  case atStart => exact ⟨0, Nat.zero_le _, rfl, by simp, IMRel.start HC.out⟩
  case round =>
    obtain ⟨j, hj, rfl, rfl, hr⟩ := hrel
    have HR : Hid (IMRel w lo xs k ad cap j wr) := hr
    by_cases hlt : j < xs.length
    · obtain ⟨hb, hr⟩ := hr
      rcases hr with rfl | ⟨g, f, rfl, hg, hrow, hlc, hf⟩
      · simp at hlt
      have c0 := hrow.cell (i := j) (by omega)
      have f0 := hrow.frozen j
      clear hb hrow hf
      go_wp2_with fail
      go_roundw
      case rel => exact ⟨j + 1, by omega, by go_num, congrArg (Value.int .i64) (by push_cast; omega), HR.out.step hlt⟩
      case measure => simp [intOf]; omega
    · have hje : j = xs.length := by omega
      have HV : Hid (IntRow wr lo (upFrom k xs.length) (.slice ad xs.length cap) ∧ Below lo w wr) := by subst hje; exact HR.out.done (by unfold maxLen; omega) hl
      have HJ : Hid (k + (xs.length : Int) = k + (j : Int)) := by rw [hje]; rfl
      clear hje hr
      go_wp2_with fail
      go_ret
      exact ⟨ret_int HJ.out.symm, HV.out⟩

set_option maxHeartbeats 400000 in
theorem heldInts_calls (n : Nat) (c : Value) (k : Int) (w : World) (hc : IIn w (upFrom k n) c) (h0 : 0 ≤ k) (h1 : k + (n : Int) ≤ 1152921504606846976) :
    Calls Try.prog 93 #[c, .int .i64 k] w fun e w' => e = .returned (.int .i64 (k + (n : Int))) ∧ Below w.heap.size w w' := by
  have HC : Hid (IIn w (upFrom k n) c) := hc
  obtain ⟨ad, cap, rfl, hl, hm, -⟩ := hc
  unfold maxLen at hm
  rw [upFrom_length] at hl ⊢
  go_enter Try.func93, Try.ntmps93
  go_wp2_with fail
  go_loopw [1, 5] (fun q i wr => ∃ j : Nat, j ≤ n ∧ i = .int .i64 j ∧ q = .int .i64 (k + j) ∧ wr = w) (fun _ i _ => n - (intOf i).toNat)
  case atStart => exact ⟨0, Nat.zero_le _, rfl, by simp, rfl⟩
  case round =>
    obtain ⟨j, hj, rfl, rfl, rfl⟩ := hrel
    by_cases hlt : j < n
    · obtain ⟨_, _, he, -, -, hr⟩ := HC.out
      simp only [Value.slice.injEq] at he
      obtain ⟨rfl, -, rfl⟩ := he
      rcases hr with hnil | ⟨bl, off, rfl, -, hr⟩
      · have := congrArg List.length hnil; rw [upFrom_length] at this; simp at this; omega
      have c0 := hr j (by rw [upFrom_length]; exact hlt)
      rw [upFrom_get] at c0
      have t2 : (k + (j : Int) != k + (j : Int)) = false := by simp
      clear hr
      go_wp2_with fail
      go_roundw
      case rel => exact ⟨j + 1, by omega, by go_num, congrArg (Value.int .i64) (by push_cast; omega), trivial⟩
      case measure => simp [intOf]; omega
    · have HJ : Hid (k + (n : Int) = k + (j : Int)) := by unfold Hid; omega
      go_wp2_with fail
      go_ret
      exact ⟨ret_int HJ.out.symm, Below.refl _ _⟩
end Go.Proofs.Ytocnkjicmchbdaa
/-
  append AS A STEP OF THE WALK, WITH WHERE THE NEW ROW LIES.
-/
namespace Go.Proofs.Ytocnkjicmchbdaa
set_option linter.unusedVariables false
set_option linter.unusedSimpArgs false
open Go.RowKit

theorem wpList_append_where {P : Program} (w : World) {ops : Array Oper} {rest : List Oper} {o : Oper} {a : Act} {Q : Exit → Act → World → Prop}
    (hg : o.guard = none) (s x : Operand) (t : TypeId) (hop : o.op = Op.call { callee := Callee.builtin Builtin.append, args := #[s, x], argTypes := #[t, t] })
    (base : Nat) (e : TypeId) (i : TypeInfo) (z : Value) (size bytes : Nat) (ht : P.underlying t = some (.slice e)) (hi : P.info? e = some i) (hz : i.zero = some z)
    (hsize : i.size = size) (hby : i.bytes = bytes) (hzs : z.cells.size = size) (hsz : 0 < size)
    (v : Value) (n : Nat) (xs : List Value) (hs : a.eval s = v) (hown : w.ownsRow base e size v n xs)
    (ad : Addr) (m c : Nat) (news : List Value) (hx : a.eval x = .slice (some ad) m c) (hl : news.length = m * size) (hnews : ∀ j u, news[j]? = some u → w.cell? (ad.add j) = some u) (h1 : ∀ u ∈ news, u.oneCell' = true)
    (h63 : n + m ≤ maxLen) (hbytes : (n + m) * bytes ≤ 140737488355328) (hbase : base ≤ w.heap.size) (hm : 0 < m)
    (hK : ∀ v' w', w'.ownsRow base e size v' (n + m) (xs ++ news) → w.grownBy w' v.ownBlock → (v'.ownBlock = v.ownBlock ∨ ∃ g, v'.ownBlock = some g ∧ w.heap.size ≤ g) → wpList P ops Q rest (a.put o.dst v') w') :
    wpList P ops Q (o :: rest) a w := by
  refine wpList_plain hg fun K' hK' => ?_
  obtain ⟨v', w', hrun, r1, r2, r3⟩ := run_append_where (P := P) w base t o.type e i z size bytes ht hi hz hsize hby hzs hsz v n xs hown ad m c news hl hnews h1 h63 hbytes hbase hm
  unfold Oper.wp
  simp [execOp, hop, resolve, invoke, builtin, hs, hx, hrun, Result.andThen]
  exact hK' _ _ (hK v' w' r1 r2 r3)

/-- an owned row that is not empty lies somewhere -/
theorem own_form {w : World} {base n size : Nat} {e : TypeId} {v : Value} {xs : List Value} (h : w.ownsRow base e size v n xs) (hn : 0 < n) : ∃ g cap, v = .slice (some ⟨g, 0, none⟩) n cap ∧ base ≤ g ∧ g < w.heap.size ∧ n ≤ cap ∧ cap ≤ maxLen := by
  rcases h.2 with ⟨-, h0⟩ | ⟨g, cap, cur, rfl, hg, hh, hn', hc, -⟩
  · omega
  · exact ⟨g, cap, rfl, hg, (Array.getElem?_eq_some_iff.1 hh).1, hn', hc⟩
/-- a block of two cells -/
theorem box2_cell (w : World) (C : Array Value) (t : TypeId) (i : Nat) (v : Value) (h : C[i]? = some v) : (w.alloc (.cells C t)).cell? ((⟨w.heap.size, 0, none⟩ : Addr).add i) = some v := by
  rw [WideShapes.add_plain, Nat.zero_add]
  exact box_cell w C t i v h
end Go.Proofs.Ytocnkjicmchbdaa
/-
  LISTS OF TREES THAT A CALL BUILDS BY append: the row that it owns, and the trees elsewhere; append as one step of a region that draws its order, with where the new row lies.
-/
namespace Go.Proofs.Ytocnkjicmchbdaa
set_option linter.unusedVariables false
set_option linter.unusedSimpArgs false
open Go.RowKit

/-- a list of trees that a call has built by append: the row is its own, the trees lie elsewhere, all from lo on -/
def OwnTr (w : World) (lo : Nat) (ts : List Tr) (v : Value) : Prop :=
  ∃ xs, w.ownsRow lo 31 3 v ts.length xs ∧ ∀ j (hj : j < ts.length), ∃ a b c, xs[j * 3]? = some a ∧ xs[j * 3 + 1]? = some b ∧ xs[j * 3 + 2]? = some c ∧ TrOn w (fun k => lo ≤ k ∧ k < w.heap.size ∧ some k ≠ v.ownBlock) ts[j] a b c

theorem OwnTr.nil (w : World) (lo : Nat) : OwnTr w lo [] (.slice none 0 0) := ⟨[], World.ownsRow_nil w lo _ _, fun j hj => absurd hj (by simp)⟩

/-- it stays where all blocks from lo on stay -/
theorem OwnTr.next {w w' : World} {lo : Nat} {ts : List Tr} {v : Value} (h : OwnTr w lo ts v) (hsz : w.heap.size ≤ w'.heap.size) (hb : ∀ k, lo ≤ k → k < w.heap.size → w'.heap[k]? = w.heap[k]?) : OwnTr w' lo ts v := by
  obtain ⟨xs, h1, h2⟩ := h
  refine ⟨xs, ⟨h1.1, ?_⟩, fun j hj => ?_⟩
  · rcases h1.2 with h | ⟨g, cap, cur, rfl, hg, hh, r⟩
    · exact Or.inl h
    · exact Or.inr ⟨g, cap, cur, rfl, hg, (hb g hg (Array.getElem?_eq_some_iff.1 hh).1).trans hh, r⟩
  · obtain ⟨a, b, c, e1, e2, e3, e4⟩ := h2 j hj
    exact ⟨a, b, c, e1, e2, e3, e4.mono (fun k hk => ⟨hk.1, Nat.lt_of_lt_of_le hk.2.1 hsz, hk.2.2⟩) (fun k hk => hb k hk.1 hk.2.1)⟩

/-- one tree more -/
theorem OwnTr.step {w w' : World} {lo : Nat} {ts : List Tr} {v v' : Value} {t : Tr} {a b c : Value} (h : OwnTr w lo ts v) (xs : List Value) (hx : w.ownsRow lo 31 3 v ts.length xs) (hlo : lo ≤ w.heap.size)
    (ht : ∀ j (hj : j < ts.length), ∃ a b c, xs[j * 3]? = some a ∧ xs[j * 3 + 1]? = some b ∧ xs[j * 3 + 2]? = some c ∧ TrOn w (fun k => lo ≤ k ∧ k < w.heap.size ∧ some k ≠ v.ownBlock) ts[j] a b c)
    (hn : TrOn w (fun k => lo ≤ k ∧ k < w.heap.size ∧ some k ≠ v.ownBlock) t a b c)
    (hown : w'.ownsRow lo 31 3 v' (ts.length + 1) (xs ++ [a, b, c])) (hg : w.grownBy w' v.ownBlock) (hw : v'.ownBlock = v.ownBlock ∨ ∃ g, v'.ownBlock = some g ∧ w.heap.size ≤ g) : OwnTr w' lo (ts ++ [t]) v' := by
  have hlen := hx.1
  have keep : ∀ (s : Tr) (x y z : Value), TrOn w (fun k => lo ≤ k ∧ k < w.heap.size ∧ some k ≠ v.ownBlock) s x y z → TrOn w' (fun k => lo ≤ k ∧ k < w'.heap.size ∧ some k ≠ v'.ownBlock) s x y z := by
    intro s x y z hs
    refine hs.mono (fun k hk => ⟨hk.1, Nat.lt_of_lt_of_le hk.2.1 hg.size, ?_⟩) (fun k hk => hg.block k hk.2.1 hk.2.2)
    rcases hw with hw | ⟨g, hw, hge⟩
    · rw [hw]; exact hk.2.2
    · rw [hw]; intro e; simp only [Option.some.injEq] at e; have := hk.2.1; omega
  refine ⟨xs ++ [a, b, c], by simpa using hown, fun j hj => ?_⟩
  by_cases hjl : j < ts.length
  · obtain ⟨x, y, z, e1, e2, e3, e4⟩ := ht j hjl
    have l1 : j * 3 + 2 < xs.length := by omega
    refine ⟨x, y, z, ?_, ?_, ?_, ?_⟩
    · rw [List.getElem?_append_left (by omega)]; exact e1
    · rw [List.getElem?_append_left (by omega)]; exact e2
    · rw [List.getElem?_append_left (by omega)]; exact e3
    · rw [List.getElem_append_left hjl]; exact keep _ _ _ _ e4
  · have hj' : j = ts.length := by simp at hj; omega
    subst hj'
    refine ⟨a, b, c, ?_, ?_, ?_, ?_⟩
    · rw [List.getElem?_append_right (by omega)]; simp [hlen]
    · rw [List.getElem?_append_right (by omega)]; simp [hlen]
    · rw [List.getElem?_append_right (by omega)]; simp [hlen]
    · simpa using keep _ _ _ _ hn

/-- the list, as trees in memory -/
theorem OwnTr.kids {w : World} {lo : Nat} {ts : List Tr} {v : Value} (h : OwnTr w lo ts v) : KidsOn w (Btw lo w.heap.size) ts v := by
  obtain ⟨xs, h1, h2⟩ := h
  rcases h1.2 with ⟨rfl, h0⟩ | ⟨g, cap, cur, rfl, hg, hh, hn, hc, hs, htk⟩
  · obtain rfl : ts = [] := List.eq_nil_of_length_eq_zero h0
    exact ⟨none, 0, rfl, Nat.le_refl _, by simp [maxLen], Or.inl rfl⟩
  · refine ⟨_, cap, rfl, hn, hc, Or.inr ⟨g, 0, rfl, ⟨hg, (Array.getElem?_eq_some_iff.1 hh).1⟩, RowOn.of _ _ fun i hi => ?_⟩⟩
    obtain ⟨a, b, c, e1, e2, e3, e4⟩ := h2 i hi
    refine ⟨a, b, c, ?_, ?_, ?_, e4.mono (fun k hk => ⟨hk.1, hk.2.1⟩) (fun _ _ => rfl)⟩
    · rw [Nat.zero_add, h1.cellAt (i * 3) (by omega)]; exact e1
    · rw [Nat.zero_add, h1.cellAt (i * 3 + 1) (by omega)]; exact e2
    · rw [Nat.zero_add, h1.cellAt (i * 3 + 2) (by omega)]; exact e3
end Go.Proofs.Ytocnkjicmchbdaa
/-
  THE BEGINNING OF A COUNT (countNodes$1): the node with what it counts itself; nothing that was there is changed.
-/
namespace Go.Proofs.Ytocnkjicmchbdaa.cntVar
set_option linter.unusedVariables false
set_option linter.unusedSimpArgs false
open Go.RowKit

/-- a function value that tells which nodes are wanted -/
def WantSaid (w0 : World) (vb : Nat) (p : Tr → Bool) : Prop :=
  ∀ (t : Tr) (c : Value) (W : World), Below w0.heap.size w0 W → In W t.kids c → Calls Try.prog 107 #[.agg #[.int .i64 t.op, .int .i64 t.num, c], .pointer (some ⟨vb, 0, none⟩)] W fun e w' => e = .returned (.bool (p t)) ∧ Below W.heap.size W w'

set_option maxRecDepth 100000 in
set_option maxHeartbeats 800000 in
theorem begin_calls {w0 : World} {vb : Nat} {p : Tr → Bool} (hw : WantSaid w0 vb p) (x : Addr) (t : Tr) (wb : Nat) (W : World) (hx : LiesAt W (Lt W.heap.size) x t) (hwb : W.cell? ⟨wb, 0, none⟩ = some (.func (.func 107) #[] #[.pointer (some ⟨vb, 0, none⟩)])) (hb : Below w0.heap.size w0 W) :
    Calls Try.prog 124 #[.pointer (some x), .pointer (some ⟨wb, 0, none⟩)] W fun e w' => e = .returned (.agg #[.pointer (some x), .int .i64 0, .int .i64 ((if p t then 1 else 0 : Nat) : Int)]) ∧ Below W.heap.size W w' := by
  have HW : Hid (WantSaid w0 vb p) := hw
  have HB : Hid (Below w0.heap.size w0 W) := hb
  obtain ⟨bl, off, a, b, c, rfl, hbl, h0, h1, h2, ht⟩ := hx
  obtain ⟨rfl, rfl, -, -, hk⟩ := trOn_iff.1 ht
  have HK : Hid (In W t.kids c) := hk
  obtain ⟨ad, cap, rfl, -, -, -⟩ := hk
  have hbl' : bl < W.heap.size := hbl
  have hwl : wb < W.heap.size := cell_lt hwb
  clear hw hb ht hbl
  have hq : Hid (∀ W', Below w0.heap.size w0 W' → In W' t.kids (.slice ad t.kids.length cap) → Calls Try.prog 107 #[.agg #[.int .i64 t.op, .int .i64 t.num, .slice ad t.kids.length cap], .pointer (some ⟨vb, 0, none⟩)] W' fun e w' => e = .returned (.bool (p t)) ∧ Below W'.heap.size W' w') := fun W' h1 h2 => HW.out t _ W' h1 h2
  cases hp : p t with
  | true =>
    rw [hp] at hq
    clear hp
    go_enter Try.func124, Try.ntmps124
    go_wp2_with fail
    go_region_with ((go_at_call 107; go_must (refine (hq.out _ ?_ ?_).mono ?_); go_must (exact (HB.out.trans ((box_below W _).mono HB.out.size)).drew); go_must (exact (HK.out.next (box_below W _)).drew); go_must (rintro e w2 ⟨rfl, hb2⟩); go_must (have HB2 : Hid (Below (W.heap.size + 1) (W.alloc (.cells #[.pointer none, .int .i64 0, .int .i64 0] 147)) w2) := (by have h := (Below.refl (W.alloc (.cells #[.pointer none, .int .i64 0, .int .i64 0] 147)).heap.size (W.alloc (.cells #[.pointer none, .int .i64 0, .int .i64 0] 147))).drew.trans hb2; rw [Deep.nblk_alloc] at h; exact h)); clear hb2))
    all_goals
      have c0 := (HB2.out.cell (p := ⟨W.heap.size, 0, none⟩) (Nat.lt_succ_self _)).trans (box_cell W _ _ 0 _ rfl)
      have c1 := (HB2.out.cell (p := ⟨W.heap.size, 1, none⟩) (Nat.lt_succ_self _)).trans (box_cell W _ _ 1 _ rfl)
      have c2 := (HB2.out.cell (p := ⟨W.heap.size, 2, none⟩) (Nat.lt_succ_self _)).trans (box_cell W _ _ 2 _ rfl)
      have hf := fun i => frz_of_blk (w := w2) (b := W.heap.size) ((HB2.out.block _ (Nat.lt_succ_self _)).trans (Deep.blk_alloc_new W _)) i
      have HB3 : Hid (Below W.heap.size W w2) := (box_below W _).trans (HB2.out.mono (Nat.le_succ _))
      go_wp2_with fail
      exact bodyPost_ret (v := .agg #[.pointer (some ⟨bl, off, none⟩), .int .i64 0, .int .i64 1]) (by simp [results, Try.results124, go_sem, c0, c1, c2]) rfl ⟨by simp, ((HB3.out.setCell (by simp) _).setCell (by simp) _).setCell (by simp) _⟩
  | false =>
    rw [hp] at hq
    clear hp
    go_enter Try.func124, Try.ntmps124
    go_wp2_with fail
    go_region_with ((go_at_call 107; go_must (refine (hq.out _ ?_ ?_).mono ?_); go_must (exact (HB.out.trans ((box_below W _).mono HB.out.size)).drew); go_must (exact (HK.out.next (box_below W _)).drew); go_must (rintro e w2 ⟨rfl, hb2⟩); go_must (have HB2 : Hid (Below (W.heap.size + 1) (W.alloc (.cells #[.pointer none, .int .i64 0, .int .i64 0] 147)) w2) := (by have h := (Below.refl (W.alloc (.cells #[.pointer none, .int .i64 0, .int .i64 0] 147)).heap.size (W.alloc (.cells #[.pointer none, .int .i64 0, .int .i64 0] 147))).drew.trans hb2; rw [Deep.nblk_alloc] at h; exact h)); clear hb2))
    all_goals
      have c0 := (HB2.out.cell (p := ⟨W.heap.size, 0, none⟩) (Nat.lt_succ_self _)).trans (box_cell W _ _ 0 _ rfl)
      have c1 := (HB2.out.cell (p := ⟨W.heap.size, 1, none⟩) (Nat.lt_succ_self _)).trans (box_cell W _ _ 1 _ rfl)
      have c2 := (HB2.out.cell (p := ⟨W.heap.size, 2, none⟩) (Nat.lt_succ_self _)).trans (box_cell W _ _ 2 _ rfl)
      have hf := fun i => frz_of_blk (w := w2) (b := W.heap.size) ((HB2.out.block _ (Nat.lt_succ_self _)).trans (Deep.blk_alloc_new W _)) i
      have HB3 : Hid (Below W.heap.size W w2) := (box_below W _).trans (HB2.out.mono (Nat.le_succ _))
      go_wp2_with fail
      exact bodyPost_ret (v := .agg #[.pointer (some ⟨bl, off, none⟩), .int .i64 0, .int .i64 0]) (by simp [results, Try.results124, go_sem, c0, c1, c2]) rfl ⟨by simp, ((HB3.out.setCell (by simp) _).setCell (by simp) _).setCell (by simp) _⟩
end Go.Proofs.Ytocnkjicmchbdaa.cntVar
/-
  THE PROGRAM's countNodes: how many nodes of a tree are wanted; nothing that was there is changed.
-/
namespace Go.Proofs.Ytocnkjicmchbdaa.cntVar
set_option linter.unusedVariables false
set_option linter.unusedSimpArgs false
open Go.RowKit

/-- what holds at the head of the loop -/
def TRel (wx : World) (B : Nat) (p : Tr → Bool) (a : Tr) (n : Nat) (v : Value) (wr : World) : Prop :=
  ∃ (l : List Fr) (f : Fr) (M : Mc), n = remP wx M (l ++ [f]) ∧ TInv wx (Pl wx) p M (l ++ [f]) ∧ HeadIs a (l ++ [f]) ∧ wr.ownsRow (B + 3) 147 3 v (l.length + 1) (frCells (l ++ [f])) ∧ (∃ g cap, v = .slice (some ⟨g, 0, none⟩) (l.length + 1) cap) ∧
    PMap embP wr (B + 2) (fun k => ∃ s, LiesAt wx (Pl wx) k s) M ∧ Below wx.heap.size wx wr

theorem zeroInt (w : World) : (zeroValue 3).run Try.prog w = .ok (.int .i64 0) w := by kernel_rfl
theorem ptrKc : PKey Try.prog 136 embP PlainAt := by
  obtain ⟨i, z, hi, -, hs, -⟩ := infoE3
  exact ptr_key Try.underlying136 hi (by omega)
theorem infoV : ∃ i z, Try.prog.info? 147 = some i ∧ i.zero = some z ∧ i.size = 3 ∧ i.bytes = 24 ∧ z.cells.size = 3 := by
  have h : (Try.prog.info? 147).map (fun i => (i.zero, i.size, i.bytes)) = some (some (.agg #[.pointer none, .int .i64 0, .int .i64 0]), 3, 24) := by kernel_rfl
  obtain ⟨i, hi, hzz⟩ := Option.map_eq_some_iff.1 h
  simp only [Prod.mk.injEq] at hzz
  obtain ⟨hz, hs, hb⟩ := hzz
  exact ⟨i, _, hi, hz, hs, hb, rfl⟩

set_option maxRecDepth 100000 in
set_option maxHeartbeats 3200000 in
theorem implCount_calls (vb : Nat) (p : Tr → Bool) (a : Tr) (c : Value) (w : World) (hw : WantSaid w vb p) (hc : InP w a.kids c) (ha : I64 a.op ∧ I64 a.num) (hz : szT a ≤ 1099511627776) :
    Calls Try.prog 106 #[.agg #[.int .i64 a.op, .int .i64 a.num, c], .func (.func 107) #[] #[.pointer (some ⟨vb, 0, none⟩)]] w fun e w' => e = .returned (.int .i64 (cntT p a : Int)) ∧ Below w.heap.size w w' := by
  have HW : Hid (WantSaid w vb p) := hw
  have HC : Hid (InP w a.kids c) := hc
  have hmm := @run_makeMap Try.prog
  have hmf : ∀ (fn : Fn) (first cap : Array Value) (w : World), (Instr.makeFunc fn first cap).run Try.prog w = .ok (.func fn first cap) w := fun _ _ _ _ => rfl
  obtain ⟨ad, cap, rfl, -, -, -⟩ := hc
  obtain ⟨wx, hwx⟩ : ∃ wx : World, wx = (w.alloc (.cells #[.int .i64 a.op, .int .i64 a.num, .slice ad a.kids.length cap] 31)).alloc (.cells #[.func (.func 107) #[] #[.pointer (some ⟨vb, 0, none⟩)]] 75) := ⟨_, rfl⟩
  have hxs : wx.heap.size = w.heap.size + 2 := by rw [hwx, Deep.nblk_alloc, Deep.nblk_alloc]
  have HX : Hid (wx = (w.alloc (.cells #[.int .i64 a.op, .int .i64 a.num, .slice ad a.kids.length cap] 31)).alloc (.cells #[.func (.func 107) #[] #[.pointer (some ⟨vb, 0, none⟩)]] 75)) := hwx
  have HXS : Hid (wx.heap.size = w.heap.size + 2) := hxs
  have hbx : Below w.heap.size w wx := by rw [hwx]; exact (box_below w _).trans ((box_below _ _).mono (by simp))
  have HBX : Hid (Below w.heap.size w wx) := hbx
  have hla : LiesAt wx (Pl wx) ⟨w.heap.size, 0, none⟩ a := by
    refine ⟨w.heap.size, 0, .int .i64 a.op, .int .i64 a.num, .slice ad a.kids.length cap, rfl, ⟨by omega, #[.int .i64 a.op, .int .i64 a.num, .slice ad a.kids.length cap], 31, ?_⟩, ?_, ?_, ?_, trOn_iff.2 ⟨rfl, rfl, ha.1, ha.2, HC.out.nextP hbx⟩⟩
    · rw [hwx, Deep.blk_alloc_lt _ _ _ (by simp)]; exact Deep.blk_alloc_new _ _
    · rw [hwx]; exact old_cell (box_cell w _ _ 0 _ rfl) _
    · rw [hwx]; exact old_cell (box_cell w _ _ 1 _ rfl) _
    · rw [hwx]; exact old_cell (box_cell w _ _ 2 _ rfl) _
  have HLA : Hid (LiesAt wx (Pl wx) ⟨w.heap.size, 0, none⟩ a) := hla
  have HWB : Hid (wx.cell? ⟨w.heap.size + 1, 0, none⟩ = some (.func (.func 107) #[] #[.pointer (some ⟨vb, 0, none⟩)])) := by
    have h := box_cell (w.alloc (.cells #[.int .i64 a.op, .int .i64 a.num, .slice ad a.kids.length cap] 31)) #[.func (.func 107) #[] #[.pointer (some ⟨vb, 0, none⟩)]] 75 0 _ rfl
    rw [Deep.nblk_alloc, ← hwx] at h
    exact h
  have hbg : ∀ (x : Addr) (t : Tr) (n : Nat) (W : World), n = (if p t then 1 else 0) → Below wx.heap.size wx W → LiesAt wx (Pl wx) x t → Calls Try.prog 124 #[.pointer (some x), .pointer (some ⟨w.heap.size + 1, 0, none⟩)] W fun e w' => e = .returned (.agg #[.pointer (some x), .int .i64 0, .int .i64 (n : Int)]) ∧ Below W.heap.size W w' := fun x t n W hn hb hx => by
    rw [hn]
    exact begin_calls HW.out x t _ W (hx.carry hb) ((hb.cell (cell_lt HWB.out)).trans HWB.out) (HBX.out.trans (hb.mono HBX.out.size))
  have HBG : Hid _ := hbg
  obtain ⟨n0, hn0⟩ : ∃ n : Nat, n = (if p a then 1 else 0) := ⟨_, rfl⟩
  have HN0 : Hid (n0 = (if p a then 1 else 0)) := hn0
  clear ha hwx hxs hbx hla hw hbg hn0
  go_enter Try.func106, Try.ntmps106
  go_wp2_with (go_at_call 124; go_must (rw [← HX.out]); go_must (refine (HBG.out _ a n0 _ HN0.out (box_below wx _) HLA.out).mono ?_); go_must (rintro e w1 ⟨rfl, hb1⟩); go_must (have HB1 : Hid (Below (wx.alloc (.map #[] 0)).heap.size (wx.alloc (.map #[] 0)) w1) := hb1); clear hb1)
  clear hmm hmf
  obtain ⟨iE, zE, hiE, hzE, hsE, hbE, hcE⟩ := infoV
  have HE : Hid (Try.prog.info? 147 = some iE ∧ iE.zero = some zE ∧ iE.size = 3 ∧ iE.bytes = 24 ∧ zE.cells.size = 3) := ⟨hiE, hzE, hsE, hbE, hcE⟩
  clear hiE hzE hsE hbE hcE
  have HZ1 : Hid (w.heap.size + 3 ≤ w1.heap.size) := by have := HB1.out.size; rw [Deep.nblk_alloc, HXS.out] at this; exact this
  have HB2 : Hid (Below wx.heap.size wx w1) := (box_below wx _).trans (HB1.out.mono (by rw [Deep.nblk_alloc]; omega))
  go_loopg [7] (remP wx (fun _ => none) [⟨⟨w.heap.size, 0, none⟩, a, 0, n0⟩]) (fun n v wr => TRel wx w.heap.size p a n v wr)
  case atStart =>
    refine ⟨[], ⟨⟨w.heap.size, 0, none⟩, a, 0, n0⟩, fun _ => none, rfl, ?_, ⟨_, [], rfl, rfl⟩, ?_, ⟨_, _, rfl⟩, ?_, HB2.out.trans ((box_below w1 _).mono HB2.out.size)⟩
    · have := TInv.start HLA.out p
      rw [← HN0.out] at this
      exact this
    · exact ⟨rfl, Or.inr ⟨_, 1, _, rfl, HZ1.out, Deep.blk_alloc_new _ _, Nat.le_refl _, by unfold maxLen; omega, rfl, rfl⟩⟩
    · have h := PMap.made (emb := embP) wx (fun k => ∃ s, LiesAt wx (Pl wx) k s)
      rw [HXS.out] at h
      refine h.keep ?_
      rw [Deep.blk_alloc_lt _ _ _ (by have := HZ1.out; omega)]
      exact HB1.out.block _ (by rw [Deep.nblk_alloc, HXS.out]; omega)
  case round =>
    obtain ⟨l, f, M, rfl, hinv, hhd, hown, ⟨g, cp, rfl⟩, hmap, hb⟩ := hrel
    have HI : Hid (TInv wx (Pl wx) p M (l ++ [f])) := hinv
    have HH : Hid (HeadIs a (l ++ [f])) := hhd
    have HP : Hid (PMap embP wr (w.heap.size + 2) (fun k => ∃ s, LiesAt wx (Pl wx) k s) M) := hmap
    have HB : Hid (Below wx.heap.size wx wr) := hb
    have HO : Hid (wr.ownsRow (w.heap.size + 3) 147 3 (.slice (some ⟨g, 0, none⟩) (l.length + 1) cp) (l.length + 1) (frCells (l ++ [f]))) := hown
    have hle := hhd.le hinv.2.1
    have hft := hle.1 f (by simp)
    have hll := hle.2
    rw [List.length_append] at hll
    simp only [List.length_cons, List.length_nil] at hll
    obtain ⟨hx, hnx, hsm⟩ := hinv.1 f (by simp)
    have hsm2 : f.sm ≤ 1 + szT f.t := by
      rw [hsm]
      have := cntL_take_le p f.t.kids f.nx
      rw [szT_eq]
      split <;> omega
    obtain ⟨hcp, hcm⟩ : l.length + 1 ≤ cp ∧ cp ≤ maxLen := by
      obtain ⟨g2, c2, e2, -, -, h1, h2⟩ := own_form hown (by omega)
      cases e2
      exact ⟨h1, h2⟩
    unfold maxLen at hcm
    have HX1 : Hid (LiesAt wx (Pl wx) f.x f.t) := hx
    obtain ⟨xb, xo, x0, x1, x2, hxe, hxp, cx0, cx1, cx2, htx⟩ := hx
    obtain ⟨rfl, rfl, -, -, hkx⟩ := trOn_iff.1 htx
    have HKX : Hid (KidsOn wx (Pl wx) f.t.kids x2) := hkx
    obtain ⟨adx, capx, rfl, -, hmx, -⟩ := hkx
    unfold maxLen at hmx
    obtain ⟨e0, e1, e2⟩ := frCells_top l f
    rw [hxe] at e0
    have p0 := own_at HO.out _ _ e0
    have p1 := own_at HO.out _ _ e1
    have p2 := own_at HO.out _ _ e2
    have q2 := (HB.out.cell (p := ⟨xb, xo + 2, none⟩) hxp.1).trans cx2
    have fz := fun j => hown.frozenAt j
    have HXE : Hid (f.x = ⟨xb, xo, none⟩ ∧ xb < wx.heap.size ∧ wx.cell? ⟨xb, xo + 2, none⟩ = some (.slice adx f.t.kids.length capx)) := ⟨hxe, hxp.1, cx2⟩
    have HSM : Hid (f.sm = (if p f.t then 1 else 0) + cntL p (f.t.kids.take f.nx)) := hsm
    have hkl : f.t.kids.length ≤ szT a := by rw [szT_eq, szL_sum] at hft; omega
    have HGG : Hid (w.heap.size + 3 ≤ g ∧ g < wr.heap.size) := by
      obtain ⟨g2, c2, e2, h1, h2, -⟩ := own_form hown (by omega)
      cases e2
      exact ⟨h1, h2⟩
    have hmb : w.heap.size + 2 < wr.heap.size := hmap.lt
    clear hinv hhd hown hmap hb hle hxe hxp cx0 cx1 cx2 htx e0 e1 e2 hsm
    by_cases hfin : f.nx = f.t.kids.length
    · have t1 : ((f.nx : Int) == f.t.kids.length) = true := by simp [hfin]
      have HF : Hid (f.nx = f.t.kids.length) := hfin
      clear hfin
      go_wp2_with fail
      go_quiet (fail)
      rename_i nq
      by_cases hl : l = []
      · have t2 : ((l.length : Int) + 1 == 1) = true := by simp [hl]
        have HR : Hid (f.sm = cntT p a) := by
          have h1 := (HI.out.pop HF.out).2.1
          subst hl
          rw [HH.out.one] at h1
          exact h1
        clear hl
        go_wp2_with fail
        go_ret
        exact ⟨ret_int (by rw [HR.out]), HBX.out.trans (below_drewN (HB.out.mono (by have := HXS.out; omega)) _)⟩
      · have t2 : ((l.length : Int) + 1 == 1) = false := by
          have : l.length ≠ 0 := fun h => hl (List.eq_nil_of_length_eq_zero h)
          simp
          omega
        have HPq : PMap embP (wr.drewN (nq + 1)) (w.heap.size + 2) (fun k => ∃ s, LiesAt wx (Pl wx) k s) M := HP.out.keep rfl
        have HBq : Below wx.heap.size wx (wr.drewN (nq + 1)) := below_drewN HB.out _
        obtain ⟨o, hrun, hpn⟩ := HPq.store ptrKc Try.underlying149 (fun y hy => by obtain ⟨s, hs⟩ := hy; exact hs.plain HBq) f.x (HX1.out.plain HBq) ⟨_, HX1.out⟩ (.int .i64 (f.sm : Int))
        simp only [embP] at hrun
        rw [HXE.out.1] at hrun
        have HV : Hid (TRel wx w.heap.size p a (remP wx (pput M f.x (.int .i64 (f.sm : Int))) l) (.slice (some ⟨g, 0, none⟩) l.length cp) { wr.drewN (nq + 1) with heap := (wr.drewN (nq + 1)).heap.setIfInBounds (w.heap.size + 2) o } ∧ remP wx (pput M f.x (.int .i64 (f.sm : Int))) l < remP wx M (l ++ [f])) := by
          obtain ⟨i1, -, i3⟩ := HI.out.pop HF.out
          refine ⟨?_, i3⟩
          have hh := HH.out.init hl
          rcases List.eq_nil_or_concat l with hnil | ⟨l', f', he⟩
          · exact absurd hnil hl
          rw [List.concat_eq_append] at he
          have hll' : l.length = l'.length + 1 := by rw [he]; simp
          have h1 := HO.out
          rw [frCells_snoc] at h1
          have h2 := own_cut (m := l.length) h1 (frCells_length l) (by omega)
          have h3 := own_keep h2 (w' := { wr.drewN (nq + 1) with heap := (wr.drewN (nq + 1)).heap.setIfInBounds (w.heap.size + 2) o }) (fun k hk _ => set_other_block (wr.drewN (nq + 1)) _ o (by omega))
          rw [hll']
          rw [hll'] at h3
          rw [he] at i1 hh h3 ⊢
          exact ⟨l', f', _, rfl, i1, hh, h3, ⟨_, _, rfl⟩, hpn, HBq.trans (set_below _ _ o (by have := HXS.out; omega))⟩
        clear hl hpn HPq HBq
        go_wp2_with fail
        go_region
        all_goals
          go_wp2_with fail
          go_roundg (remP wx (pput M f.x (.int .i64 (f.sm : Int))) l)
          case rel => exact HV.out.1
          case measure => exact HV.out.2
    · have t1 : ((f.nx : Int) == f.t.kids.length) = false := by simp; omega
      have hlt : f.nx < f.t.kids.length := by omega
      obtain ⟨_, _, he, -, -, hr⟩ := HKX.out
      cases he
      rcases hr with hnil | ⟨xkb, xko, rfl, hxk, hrx⟩
      · rw [hnil] at hlt; simp at hlt
      have HLZ : Hid (LiesAt wx (Pl wx) ⟨xkb, xko + f.nx * 3, none⟩ f.t.kids[f.nx]) := RowOn.liesAt hlt hxk hrx
      have HAZ : Hid (kidAddr wx f.x f.nx = ⟨xkb, xko + f.nx * 3, none⟩) := KidAt.addr ⟨xb, xo, xkb, xko, _, _, HXE.out.1, HXE.out.2.2, rfl⟩
      have HLT : Hid (f.nx < f.t.kids.length) := hlt
      have hpl : ∀ n, PlainAt (wr.drewN n) ⟨xkb, xko + f.nx * 3, none⟩ := fun n => HLZ.out.plain (below_drewN HB.out n)
      have hK2 : ∀ n y, (∃ s, LiesAt wx (Pl wx) y s) → PlainAt (wr.drewN n) y := fun n y hy => by obtain ⟨s, hs⟩ := hy; exact hs.plain (below_drewN HB.out n)
      have hlook := fun n => ((HP.out.keep (w' := wr.drewN n) rfl).look ptrKc Try.underlying149 (hK2 n) (zeroInt _) ⟨xkb, xko + f.nx * 3, none⟩ (hpl n)).2
      simp only [embP] at hlook
      have HPL : Hid (∀ n, PlainAt (wr.drewN n) ⟨xkb, xko + f.nx * 3, none⟩) := hpl
      have HK2 : Hid (∀ n y, (∃ s, LiesAt wx (Pl wx) y s) → PlainAt (wr.drewN n) y) := hK2
      clear hrx hxk hfin hpl hK2
      cases hM : M ⟨xkb, xko + f.nx * 3, none⟩ with
      | some v =>
        obtain ⟨cn, hcn⟩ : ∃ cn : Nat, cn = cntT p f.t.kids[f.nx] := ⟨_, rfl⟩
        obtain ⟨hv, hi2, hm2⟩ : v = .int .i64 (cn : Int) ∧ TInv wx (Pl wx) p M (l ++ [⟨f.x, f.t, f.nx + 1, f.sm + cn⟩]) ∧ remP wx M (l ++ [⟨f.x, f.t, f.nx + 1, f.sm + cn⟩]) < remP wx M (l ++ [f]) := by
          rw [hcn]
          exact HI.out.found hlt (v := v) (by rw [HAZ.out]; exact hM)
        subst hv
        have hcl : cn ≤ 1 + szT f.t := by
          have h1 := cntT_le p f.t.kids[f.nx]
          have h2 := szT_lt_szL f.t.kids f.nx hlt
          rw [← szT_eq] at h2
          omega
        rw [hM] at hlook
        simp only [Option.getD_some, Option.isSome_some] at hlook
        have HI2 : Hid (TInv wx (Pl wx) p M (l ++ [⟨f.x, f.t, f.nx + 1, f.sm + cn⟩]) ∧ remP wx M (l ++ [⟨f.x, f.t, f.nx + 1, f.sm + cn⟩]) < remP wx M (l ++ [f])) := ⟨hi2, hm2⟩
        have t3 : ((cn : Int) == -1) = false := by simp <;> omega
        clear hM hcn hi2 hm2
        go_wp2_with fail
        have HV : Hid (∀ n, TRel wx w.heap.size p a (remP wx M (l ++ [⟨f.x, f.t, f.nx + 1, f.sm + cn⟩])) (.slice (some ⟨g, 0, none⟩) (l.length + 1) cp) (((wr.drewN n).setCell ⟨g, l.length * 3 + 2, none⟩ (.int .i64 ((f.sm : Int) + (cn : Int)))).setCell ⟨g, l.length * 3 + 1, none⟩ (.int .i64 ((f.nx : Int) + 1)))) := by
          intro n
          have h1 : (wr.drewN n).ownsRow (w.heap.size + 3) 147 3 (.slice (some ⟨g, 0, none⟩) (l.length + 1) cp) (l.length + 1) (frCells (l ++ [f])) := own_keep HO.out (fun k _ _ => rfl)
          have h2 := ((h1.stored (l.length * 3 + 2) (.int .i64 ((f.sm : Int) + (cn : Int)))).1.stored (l.length * 3 + 1) (.int .i64 ((f.nx : Int) + 1))).1
          have h3 := frCells_set l f (f.nx + 1) (f.sm + cn)
          push_cast at h3
          rw [h3] at h2
          refine ⟨l, ⟨f.x, f.t, f.nx + 1, f.sm + cn⟩, M, rfl, HI2.out.1, HH.out.last rfl, h2, ⟨_, _, rfl⟩, (HP.out.keep (w' := wr.drewN n) rfl).keep ?_, ?_⟩
          · exact (Below.heap_setCell _ _ _ _ (by have := HGG.out.1; show w.heap.size + 2 ≠ g; omega)).trans (Below.heap_setCell _ _ _ _ (by have := HGG.out.1; show w.heap.size + 2 ≠ g; omega))
          · exact ((below_drewN HB.out n).setCell (by have := HGG.out.1; have := HXS.out; show wx.heap.size ≤ g; omega) _).setCell (by have := HGG.out.1; have := HXS.out; show wx.heap.size ≤ g; omega) _
        go_quiet (fail)
        go_wp2_with fail
        go_quiet (fail)
        go_wp2_with fail
        go_roundg (remP wx M (l ++ [⟨f.x, f.t, f.nx + 1, f.sm + cn⟩]))
        case rel => exact HV.out _
        case measure => exact HI2.out.2
      | none =>
        obtain ⟨n1, hn1⟩ : ∃ n : Nat, n = (if p f.t.kids[f.nx] then 1 else 0) := ⟨_, rfl⟩
        have HN1 : Hid (n1 = (if p f.t.kids[f.nx] then 1 else 0)) := hn1
        have HI2 : Hid (TInv wx (Pl wx) p (pput M ⟨xkb, xko + f.nx * 3, none⟩ (.int .i64 (-1))) (l ++ [f] ++ [⟨⟨xkb, xko + f.nx * 3, none⟩, f.t.kids[f.nx], 0, n1⟩]) ∧ remP wx (pput M ⟨xkb, xko + f.nx * 3, none⟩ (.int .i64 (-1))) (l ++ [f] ++ [⟨⟨xkb, xko + f.nx * 3, none⟩, f.t.kids[f.nx], 0, n1⟩]) < remP wx M (l ++ [f])) := by
          have h := HI.out.push hlt (by rw [HAZ.out]; exact hM)
          rw [HAZ.out] at h
          rw [hn1]
          exact h
        rw [hM] at hlook
        simp only [Option.getD_none, Option.isSome_none] at hlook
        clear hM hn1
        go_wp2_with fail
        go_quiet (fail)
        go_wp2_with fail
        go_quiet (fail)
        go_wp2_with (first
          | (at_mapUpdate; go_must (refine wpList_store_v _ rfl _ _ _ 149 rfl 136 3 ptrKc Try.underlying149 (w.heap.size + 2) _ M rfl (HP.out.keep rfl) (HK2.out _) ⟨xkb, xko + f.nx * 3, none⟩ rfl (HPL.out _) ⟨_, HLZ.out⟩ (.int .i64 (-1)) rfl ?_); go_must (intro w1 hp hg hz1); go_must (have HP1 : Hid (PMap embP w1 (w.heap.size + 2) (fun k => ∃ s, LiesAt wx (Pl wx) k s) (pput M ⟨xkb, xko + f.nx * 3, none⟩ (.int .i64 (-1)))) := hp); go_must (have HX3 : Hid (∀ k, k < wr.heap.size → k ≠ w.heap.size + 2 → w1.heap[k]? = wr.heap[k]?) := fun k h1 h2 => hg.block k h1 (by simp; omega)); go_must (have HZ3 : Hid (w1.heap.size = wr.heap.size) := hz1); go_must (have HB1 : Hid (Below wx.heap.size wx w1) := ⟨hg.os.trans HB.out.os, hg.tape.trans HB.out.tape, hg.output.trans HB.out.output, Nat.le_trans HB.out.size (Nat.le_of_eq hz1.symm), fun k hk => (hg.block k (Nat.lt_of_lt_of_le hk HB.out.size) (by have := HXS.out; simp; omega)).trans (HB.out.block k hk)⟩); clear hp hg hz1 hlook)
          | (go_at_call 124; go_must (refine (HBG.out ⟨xkb, xko + f.nx * 3, none⟩ f.t.kids[f.nx] n1 _ HN1.out HB1.out HLZ.out).mono ?_); go_must (rintro e w2 ⟨rfl, hb2⟩); go_must (have HB2' : Hid (Below w1.heap.size w1 w2) := hb2); go_must (have hz2 : wr.heap.size ≤ w2.heap.size := by have := hb2.size; have := HZ3.out; omega); clear hb2)
          | (at_builtin; go_must (refine wpList_append_own _ rfl _ _ 150 rfl (w.heap.size + 3) 147 iE zE 3 24 Try.underlying150 HE.out.1 HE.out.2.1 HE.out.2.2.1 HE.out.2.2.2.1 HE.out.2.2.2.2 (by decide) _ _ _ rfl (own_keep (w := wr) HO.out (fun k h1 h2 => ((Deep.blk_alloc_lt _ _ k (by omega)).trans (HB2'.out.block k (by have := HZ3.out; omega))).trans (HX3.out k h2 (by omega)))) ⟨w2.heap.size, 0, none⟩ 1 1 [.pointer (some ⟨xkb, xko + f.nx * 3, none⟩), .int .i64 0, .int .i64 (n1 : Int)] rfl rfl (fun j u hu => box2_cell w2 _ _ j u (by simpa using hu)) (by simp [Value.oneCell']) (by unfold maxLen; omega) (by omega) (by rw [Deep.nblk_alloc]; omega) ?_); go_must (intro v' w3 hown' hgrow hnil); go_must (have HO3 : Hid (w3.ownsRow (w.heap.size + 3) 147 3 v' (l.length + 1 + 1) (frCells (l ++ [f]) ++ [.pointer (some ⟨xkb, xko + f.nx * 3, none⟩), .int .i64 0, .int .i64 (n1 : Int)])) := hown'); go_must (have HB3 : Hid (∀ k, k < wr.heap.size → k < w.heap.size + 3 → w3.heap[k]? = w1.heap[k]?) := fun k h1 h2 => ((hgrow.block k (by rw [Deep.nblk_alloc]; omega) (fun e => by have := own_block HO.out e; omega)).trans (Deep.blk_alloc_lt _ _ k (by omega))).trans (HB2'.out.block k (by have := HZ3.out; omega))); go_must (have HB4 : Hid (Below wx.heap.size wx w3) := ⟨(by rw [hgrow.os]; exact HB2'.out.os.trans HB1.out.os), (by rw [hgrow.tape]; exact HB2'.out.tape.trans HB1.out.tape), (by rw [hgrow.output]; exact HB2'.out.output.trans HB1.out.output), Nat.le_trans HB1.out.size (Nat.le_trans HB2'.out.size (by have := hgrow.size; rw [Deep.nblk_alloc] at this; omega)), fun k hk => (HB3.out k (Nat.lt_of_lt_of_le hk HB.out.size) (by have := HXS.out; omega)).trans (HB1.out.block k hk)⟩); go_must (obtain ⟨g3, c3, rfl, -⟩ := own_form hown' (by omega)); clear hown' hgrow hnil))
        go_roundg (remP wx (pput M ⟨xkb, xko + f.nx * 3, none⟩ (.int .i64 (-1))) (l ++ [f] ++ [⟨⟨xkb, xko + f.nx * 3, none⟩, f.t.kids[f.nx], 0, n1⟩]))
        case rel =>
          refine ⟨l ++ [f], ⟨⟨xkb, xko + f.nx * 3, none⟩, f.t.kids[f.nx], 0, n1⟩, _, rfl, HI2.out.1, HH.out.snoc _, ?_, ⟨g3, c3, by simp⟩, HP1.out.keep (HB3.out _ hmb (by omega)), HB4.out⟩
          rw [frCells_snoc]
          simpa using HO3.out
        case measure => exact HI2.out.2
end Go.Proofs.Ytocnkjicmchbdaa.cntVar
/-
  VarsUsed, the program's and the model's: how often each variable stands in a tree, in new memory; nothing that was there is changed.
-/
namespace Go.Proofs.Ytocnkjicmchbdaa
set_option linter.unusedVariables false
set_option linter.unusedSimpArgs false
open Go.RowKit

def varsB (vars : Int) (t : Tr) : List Int := if 0 ≤ vars ∧ vars ≤ 4 then varsOf vars.toNat t else []
/-- a call has handed back these numbers in new memory -/

theorem row_done {w : World} {g n lo : Nat} {t : Tr} (h : w.rowIs g 3 n (fun i => .int .i64 ((0 + cntT (isV i) t : Nat) : Int))) (hg : lo ≤ g) (hn : n ≤ 1048576) : IntRow w lo (varsOf n t) (.slice (some ⟨g, 0, none⟩) n n) := by
  refine ⟨_, _, by rw [varsOf_length], by rw [varsOf_length]; exact Nat.le_refl _, by unfold maxLen; omega, Or.inr ⟨g, _, rfl, hg, h, fun i hi => ?_⟩⟩
  rw [varsOf_get, Nat.zero_add]

set_option maxRecDepth 100000 in
set_option maxHeartbeats 800000 in
theorem specVars_calls (t : Tr) (c : Value) (vars : Int) (w : World) (hk : In w t.kids c) (hz : szT t ≤ 1048576) (hv : I64 vars) :
    Calls Try.prog 74 #[.agg #[.int .i64 t.op, .int .i64 t.num, c], .int .i64 vars] w (NewInts (varsB vars t) w) := by
  have HK : Hid (In w t.kids c) := hk
  obtain ⟨ad, cap, rfl, -, -, -⟩ := hk
  by_cases h0 : vars < 0
  · have hvb : varsB vars t = [] := by unfold varsB; rw [if_neg (by omega)]
    rw [hvb]
    clear hvb
    go_enter Try.func74, Try.ntmps74
    go_wp2_with fail
    go_ret
    exact ⟨_, rfl, ⟨_, _, rfl, Nat.le_refl _, by simp [maxLen], Or.inl rfl⟩, (box_below _ _).trans ((box_below _ _).mono (by simp))⟩
  by_cases h4 : 4 < vars
  · have hvb : varsB vars t = [] := by unfold varsB; rw [if_neg (by omega)]
    rw [hvb]
    clear hvb
    go_enter Try.func74, Try.ntmps74
    go_wp2_with fail
    go_ret
    exact ⟨_, rfl, ⟨_, _, rfl, Nat.le_refl _, by simp [maxLen], Or.inl rfl⟩, (box_below _ _).trans ((box_below _ _).mono (by simp))⟩
  obtain ⟨n, rfl⟩ : ∃ n : Nat, vars = n := ⟨vars.toNat, by omega⟩
  have hvb : varsB (n : Int) t = varsOf n t := by unfold varsB; rw [if_pos (by omega)]; rfl
  rw [hvb]
  have hmk := make_ints n (by omega)
  clear hvb
  have hb1 := box_below w (.cells #[.int .i64 t.op, .int .i64 t.num, .slice ad t.kids.length cap] 31)
  have hb2 := box_below (w.alloc (.cells #[.int .i64 t.op, .int .i64 t.num, .slice ad t.kids.length cap] 31)) (.cells (madeCells #[.int .i64 0] n) 3)
  have hrow := zero_row (w.alloc (.cells #[.int .i64 t.op, .int .i64 t.num, .slice ad t.kids.length cap] 31)) n
  rw [Deep.nblk_alloc] at hb2 hrow
  have HROW : Hid _ := hrow
  have HBB : Hid (Below w.heap.size w ((w.alloc (.cells #[.int .i64 t.op, .int .i64 t.num, .slice ad t.kids.length cap] 31)).alloc (.cells (madeCells #[.int .i64 0] n) 3))) := hb1.trans (hb2.mono (by omega))
  clear hb1 hb2 hrow
  go_enter Try.func74, Try.ntmps74
  go_wp2_with fail
  go_region_with ((go_at_call 105; go_must (refine (uses_calls t (w.heap.size + 1) n (fun _ => 0) _ _ _ _ ?_ (by omega) (fun i _ => by omega) ?_ rfl rfl).mono ?_); go_must (exact HROW.out); go_must (exact HK.out.mono (fun k hk => ⟨by have : k < w.heap.size := hk; omega, Nat.lt_of_lt_of_le hk HBB.out.size⟩) (fun k hk => HBB.out.block k hk)); go_must (rintro e w3 ⟨rfl, hr3, hb3⟩); go_must (have HR3 : Hid (IntRow w3 w.heap.size (varsOf n t) (.slice (some ⟨w.heap.size + 1, 0, none⟩) n n)) := row_done hr3 (by omega) (by omega)); go_must (have HB3 : Hid (Below w.heap.size w w3) := HBB.out.trans ((Below.refl _ _).drew.trans (hb3.below (by simp) (by have := HBB.out.size; exact this)))); clear hr3 hb3))
  all_goals
    go_wp2_with fail
    go_ret
    exact ⟨_, rfl, HR3.out, HB3.out⟩

set_option maxRecDepth 100000 in
set_option maxHeartbeats 800000 in
/-- the closure of VarsUsed -/
theorem want_var (w0 : World) (vb n : Nat) (hv : w0.cell? ⟨vb, 0, none⟩ = some (.int .i64 (n : Int))) : cntVar.WantSaid w0 vb (isV n) := by
  intro t c W hb hk
  have hvb := (hb.cell (p := ⟨vb, 0, none⟩) (cell_lt hv)).trans hv
  have hvl := cell_lt hvb
  simp only at hvl
  obtain ⟨ad, cap, rfl, -, -, -⟩ := hk
  clear hb hv
  by_cases h1 : t.op = 1
  · have t1 : (t.op == 1) = true := by simpa using h1
    cases h2 : (t.num == (n : Int)) with
    | true =>
      have hx : isV n t = true := by simp [isV, h1, h2]
      rw [hx]
      clear h1 hx
      go_enter Try.func107, Try.ntmps107
      go_wp2_with fail
      go_ret
      exact ⟨rfl, box_below _ _⟩
    | false =>
      have hx : isV n t = false := by simp [isV, h1, h2]
      rw [hx]
      clear h1 hx
      go_enter Try.func107, Try.ntmps107
      go_wp2_with fail
      go_ret
      exact ⟨rfl, box_below _ _⟩
  · have t1 : (t.op == 1) = false := by simpa using h1
    have hx : isV n t = false := by simp [isV, h1]
    rw [hx]
    clear h1 hx
    go_enter Try.func107, Try.ntmps107
    go_wp2_with fail
    go_ret
    exact ⟨rfl, box_below _ _⟩

set_option maxRecDepth 100000 in
set_option maxHeartbeats 1600000 in
theorem implVars_calls (t : Tr) (c : Value) (vars : Int) (w : World) (hk : InP w t.kids c) (ht : I64 t.op ∧ I64 t.num) (hz : szT t ≤ 1048576) (hv : I64 vars) :
    Calls Try.prog 76 #[.agg #[.int .i64 t.op, .int .i64 t.num, c], .int .i64 vars] w (NewInts (varsB vars t) w) := by
  have HK : Hid (InP w t.kids c) := hk
  have HT : Hid (I64 t.op ∧ I64 t.num) := ht
  obtain ⟨ad, cap, rfl, -, -, -⟩ := hk
  clear ht
  by_cases h0 : vars < 0
  · have hvb : varsB vars t = [] := by unfold varsB; rw [if_neg (by omega)]
    rw [hvb]
    clear hvb
    go_enter Try.func76, Try.ntmps76
    go_wp2_with fail
    go_ret
    exact ⟨_, rfl, IntRow.none _ _, box_below _ _⟩
  by_cases h4 : 4 < vars
  · have hvb : varsB vars t = [] := by unfold varsB; rw [if_neg (by omega)]
    rw [hvb]
    clear hvb
    go_enter Try.func76, Try.ntmps76
    go_wp2_with fail
    go_ret
    exact ⟨_, rfl, IntRow.none _ _, box_below _ _⟩
  obtain ⟨n, rfl⟩ : ∃ n : Nat, vars = n := ⟨vars.toNat, by omega⟩
  have hvb : varsB (n : Int) t = varsOf n t := by unfold varsB; rw [if_pos (by omega)]; rfl
  rw [hvb]
  have hmk := make_ints n (by omega)
  have hmf : ∀ (fn : Fn) (first cap : Array Value) (w : World), (Instr.makeFunc fn first cap).run Try.prog w = .ok (.func fn first cap) w := fun _ _ _ _ => rfl
  clear hvb
  obtain ⟨wb, hwb⟩ : ∃ wb : World, wb = w.alloc (.cells #[.int .i64 t.op, .int .i64 t.num, .slice ad t.kids.length cap] 31) := ⟨_, rfl⟩
  have hbs : wb.heap.size = w.heap.size + 1 := by rw [hwb]; exact Deep.nblk_alloc _ _
  have HBS : Hid (wb.heap.size = w.heap.size + 1) := hbs
  have HWB : Hid (wb = w.alloc (.cells #[.int .i64 t.op, .int .i64 t.num, .slice ad t.kids.length cap] 31)) := hwb
  have HB0 : Hid (Below w.heap.size w wb) := by rw [hwb]; exact box_below _ _
  have b0 : wb.cell? ⟨w.heap.size, 0, none⟩ = some (.int .i64 t.op) := by rw [hwb]; exact box_cell w _ _ 0 _ rfl
  have b1 : wb.cell? ⟨w.heap.size, 1, none⟩ = some (.int .i64 t.num) := by rw [hwb]; exact box_cell w _ _ 1 _ rfl
  have b2 : wb.cell? ⟨w.heap.size, 2, none⟩ = some (.slice ad t.kids.length cap) := by rw [hwb]; exact box_cell w _ _ 2 _ rfl
  have HCB : Hid (wb.cell? ⟨w.heap.size, 0, none⟩ = some (.int .i64 t.op) ∧ wb.cell? ⟨w.heap.size, 1, none⟩ = some (.int .i64 t.num) ∧ wb.cell? ⟨w.heap.size, 2, none⟩ = some (.slice ad t.kids.length cap)) := ⟨b0, b1, b2⟩
  have hrow := zero_row wb n
  rw [hbs] at hrow
  have HROW : Hid _ := hrow
  clear hwb hbs b0 b1 b2 hrow
  go_enter Try.func76, Try.ntmps76
  go_wp2_with fail
  go_loopw [17] (fun i wr => ∃ k : Nat, k ≤ n ∧ i = .int .i64 k ∧ wr.rowIs (w.heap.size + 1) 3 n (fun i => .int .i64 ((if i < k then cntT (isV i) t else 0 : Nat) : Int)) ∧ Below wb.heap.size wb wr) (fun i _ => n - (intOf i).toNat)
  case atStart =>
    rw [← HWB.out]
    exact ⟨0, Nat.zero_le _, rfl, World.rowIs.congr HROW.out fun i hi => by simp, box_below wb _⟩
  case round =>
    obtain ⟨k, hk, rfl, hrow, hb⟩ := hrel
    have HR : Hid (wr.rowIs (w.heap.size + 1) 3 n (fun i => .int .i64 ((if i < k then cntT (isV i) t else 0 : Nat) : Int))) := hrow
    have HB : Hid (Below wb.heap.size wb wr) := hb
    have hrl : w.heap.size + 1 < wr.heap.size := hrow.lt
    have hl1 : w.heap.size < wr.heap.size := by omega
    by_cases hlt : k < n
    · have hl0 : w.heap.size < wb.heap.size := by have := HBS.out; omega
      have c0 := (hb.cell (p := ⟨w.heap.size, 0, none⟩) hl0).trans HCB.out.1
      have c1 := (hb.cell (p := ⟨w.heap.size, 1, none⟩) hl0).trans HCB.out.2.1
      have c2 := (hb.cell (p := ⟨w.heap.size, 2, none⟩) hl0).trans HCB.out.2.2
      have HKW : Hid (InP wr t.kids (.slice ad t.kids.length cap)) := HK.out.nextP (HB0.out.trans (hb.mono HB0.out.size))
      clear hrow hb
      go_wp2_with fail
      go_region_with ((go_at_call 106; go_must (refine (cntVar.implCount_calls wr.heap.size (isV k) t _ _ (want_var _ _ k ?_) ?_ HT.out (by omega)).mono ?_); go_must (exact box_cell wr #[.int .i64 (k : Int)] 3 0 _ rfl); go_must (exact (HKW.out.nextP (box_below wr _)).nextP ((Below.refl _ _).drew)); go_must (rintro e w2 ⟨rfl, hb2⟩); go_must (have HB2 : Hid (Below wr.heap.size wr w2) := (box_below wr (.cells #[.int .i64 (k : Int)] 3)).trans (((Below.refl _ _).drew.trans hb2).mono (by have h := (box_below wr (.cells #[.int .i64 (k : Int)] 3)).size; exact h))); go_must (have hr2 := HR.out.of_block (HB2.out.block _ hrl)); go_must (have HR2 : Hid (w2.rowIs (w.heap.size + 1) 3 n (fun i => .int .i64 ((if i < k then cntT (isV i) t else 0 : Nat) : Int))) := hr2); go_must (have d0 := hr2.cell (i := k) hlt); go_must (have z0 := hr2.frozen k); go_must (have v0 : w2.cell? ⟨wr.heap.size, 0, none⟩ = some (.int .i64 (k : Int)) := (hb2.cell (p := ⟨wr.heap.size, 0, none⟩) (by show wr.heap.size < (wr.alloc _).heap.size; rw [Deep.nblk_alloc]; omega)).trans (box_cell wr #[.int .i64 (k : Int)] 3 0 _ rfl)); clear hb2 hr2))
      all_goals
        have HV : Hid ((w2.setCell ⟨w.heap.size + 1, k, none⟩ (.int .i64 (cntT (isV k) t : Int))).rowIs (w.heap.size + 1) 3 n (fun i => .int .i64 ((if i < k + 1 then cntT (isV i) t else 0 : Nat) : Int)) ∧ Below wb.heap.size wb (w2.setCell ⟨w.heap.size + 1, k, none⟩ (.int .i64 (cntT (isV k) t : Int)))) := by
          refine ⟨World.rowIs.congr (HR2.out.set k _) fun i hi => ?_, Below.setCell (HB.out.trans (HB2.out.mono HB.out.size)) (by have := HBS.out; show wb.heap.size ≤ w.heap.size + 1; omega) _⟩
          by_cases hik : i = k
          · subst hik; simp
          · by_cases hik2 : i < k
            · simp [hik, hik2, show i < k + 1 from by omega]
            · simp [hik, hik2, show ¬ i < k + 1 from by omega]
        clear d0 z0 v0 c0 c1 c2
        go_wp2_with fail
        go_roundw
        case rel => exact ⟨k + 1, by omega, by go_num, HV.out⟩
        case measure => simp [intOf]; omega
    · have hke : k = n := by omega
      have HV : Hid (IntRow wr w.heap.size (varsOf n t) (.slice (some ⟨w.heap.size + 1, 0, none⟩) n n) ∧ Below w.heap.size w wr) := by
        refine ⟨row_done (World.rowIs.congr HR.out fun i hi => ?_) (by omega) (by omega), HB0.out.trans (HB.out.mono HB0.out.size)⟩
        rw [if_pos (by omega), Nat.zero_add]
      clear hke hrow hb
      go_wp2_with fail
      go_ret
      exact ⟨_, rfl, HV.out⟩
end Go.Proofs.Ytocnkjicmchbdaa
/-
  WHICH ARGUMENTS ARE NEVER USED, as plain lists.
-/
namespace Go.Proofs.Ytocnkjicmchbdaa
set_option linter.unusedVariables false
set_option linter.unusedSimpArgs false
open Go.RowKit

/-- is argument v of function i never used? -/
def unuF (ds : List Df) (i v : Nat) : Bool := ((varsOf (arN ds i) (bodyN ds i))[v]?).getD 0 == 0
def unusedA (ds : List Df) : List (List Bool) := if progB ds = true then gridN ds (unuF ds) else []
theorem unusedA_no {ds : List Df} (h : progB ds = false) : unusedA ds = [] := by unfold unusedA; rw [h]; rfl
theorem unusedA_yes {ds : List Df} (h : progB ds = true) : unusedA ds = gridN ds (unuF ds) := by unfold unusedA; rw [if_pos h]
theorem unusedA_small (ds : List Df) : (unusedA ds).length ≤ 6 ∧ ((unusedA ds).map (·.length)).sum ≤ 24 := by
  cases hp : progB ds with
  | false => rw [unusedA_no hp]; simp
  | true => rw [unusedA_yes hp]; exact fit_small (grid_fit (progB_ar hp) _) (progB_len hp) (progB_ar hp)
theorem varsB_ar {ds : List Df} {i n : Nat} (hi : i < ds.length) (hn : ds[i].1 = (n : Int)) (h4 : n ≤ 4) : varsB (n : Int) ds[i].2 = varsOf (arN ds i) (bodyN ds i) ∧ arN ds i = n := by
  have e : arN ds i = n := by unfold arN; rw [List.getElem?_eq_getElem hi]; simp only [Option.map_some, Option.getD_some, hn]; omega
  refine ⟨?_, e⟩
  rw [e, bodyN_at hi]
  unfold varsB
  rw [if_pos (by omega)]
  rfl
/-- number i of an answer, in its cell -/
theorem ints_num {w : World} {lo : Nat} {xs : List Int} {v : Value} (h : IntRow w lo xs v) (i n : Nat) (hn : xs.length = n) (hi : i < n) : ∃ b cap, v = .slice (some ⟨b, 0, none⟩) n cap ∧ n ≤ cap ∧ cap ≤ maxLen ∧ w.cell? ⟨b, i, none⟩ = some (.int .i64 ((xs[i]?).getD 0)) := by
  obtain ⟨ad, cap, rfl, h1, h2, hr⟩ := h
  rcases hr with rfl | ⟨b, f, rfl, -, hr, hf⟩
  · simp at hn; omega
  · refine ⟨b, cap, by rw [hn], by omega, h2, ?_⟩
    rw [hr.cell (by omega), hf i (by omega), List.getElem?_eq_getElem (by omega), Option.getD_some]
theorem ints_at {w : World} {xs : List Int} {ad : Option Addr} {n cap : Nat} (h : IIn w xs (.slice ad n cap)) (i : Nat) (hi : i < xs.length) : ∃ bl off, ad = some ⟨bl, off, none⟩ ∧ bl < w.heap.size ∧ w.cell? ⟨bl, off + i, none⟩ = some (.int .i64 ((xs[i]?).getD 0)) := by
  obtain ⟨ad', cap', he, -, -, hr⟩ := h
  cases he
  rcases hr with rfl | ⟨bl, off, rfl, hb, r⟩
  · simp at hi
  exact ⟨bl, off, rfl, hb, by rw [r i hi, List.getElem?_eq_getElem hi, Option.getD_some]⟩
end Go.Proofs.Ytocnkjicmchbdaa
/-
  THE MODEL's UnusedArgs.
-/
namespace Go.Proofs.Ytocnkjicmchbdaa
set_option linter.unusedVariables false
set_option linter.unusedSimpArgs false
open Go.RowKit

set_option maxRecDepth 100000 in
set_option maxHeartbeats 3200000 in
theorem specUnusedArgs_calls (ds : List Df) (p : Value) (w : World) (hp : DIn w ds p) (hz : szL (bodies ds) ≤ 1048576) :
    Calls Try.prog 27 #[p] w (NewN (unusedA ds) w) := by
  have HP := mkHid hp
  have HZ := mkHid hz
  have HPV := mkHid fun W h => specProg_calls ds _ W (hp.next (w' := W) h)
  obtain ⟨adp, capp, rfl, hpl, hpm, -⟩ := hp
  unfold maxLen at hpm
  clear hz
  cases hpr : progB ds with
  | false =>
    rw [hpr] at HPV
    rw [unusedA_no hpr]
    clear hpr
    have HBX : Hid (Below w.heap.size w (w.alloc (.cells #[] 74))) := box_below _ _
    go_enter Try.func27, Try.ntmps27
    go_wp2_with fail
    refine (HPV.out _ HBX.out).mono ?_
    rintro e w1 ⟨rfl, hb1⟩
    have HB1 : Hid (Below w.heap.size w w1) := HBX.out.trans (hb1.mono HBX.out.size)
    have HNO : Hid (NOwn w1 w.heap.size [] (.slice (some ⟨w.heap.size, 0, none⟩) 0 0)) := NOwn.nil_of ⟨rfl, Or.inr ⟨_, 0, #[], rfl, Nat.le_refl _, (hb1.block _ (by rw [Deep.nblk_alloc]; omega)).trans (Deep.blk_alloc_new _ _), Nat.le_refl _, by unfold maxLen; omega, rfl, rfl⟩⟩
    clear hb1
    go_wp2_with fail
    go_ret
    exact ⟨_, rfl, HNO.out, HB1.out⟩
  | true =>
  rw [hpr] at HPV
  rw [unusedA_yes hpr]
  have HPR := mkHid hpr
  have h6 := progB_len hpr
  have HAR := mkHid (progB_ar hpr)
  clear hpr
  obtain ⟨iE, zE, hiE, hzE, hsE, hbE, hcE⟩ := infoE1
  have HE : Hid (Try.prog.info? 74 = some iE ∧ iE.zero = some zE ∧ iE.size = 1 ∧ iE.bytes = 24 ∧ zE.cells.size = 1) := ⟨hiE, hzE, hsE, hbE, hcE⟩
  clear hiE hzE hsE hbE hcE
  obtain ⟨iB, zB, hiB, hzB, hsB, hbB, hcB⟩ := infoBo1
  have HBo : Hid (Try.prog.info? 4 = some iB ∧ iB.zero = some zB ∧ iB.size = 1 ∧ iB.bytes = 1 ∧ zB.cells.size = 1) := ⟨hiB, hzB, hsB, hbB, hcB⟩
  clear hiB hzB hsB hbB hcB
  go_enter Try.func27, Try.ntmps27
  go_wp2_with fail
  refine (HPV.out _ (box_below _ _)).mono ?_
  rintro e w0 ⟨rfl, hb0⟩
  have HB0 : Hid (Below w.heap.size w w0) := (box_below _ _).trans (hb0.mono (box_below w (.cells #[] 74)).size)
  have HE0 : Hid (w0.heap[w.heap.size]? = some (.cells #[] 74)) := (hb0.block _ (by rw [Deep.nblk_alloc]; omega)).trans (Deep.blk_alloc_new _ _)
  clear hb0
  go_wp2_with fail
  go_loopw [3, 4] (fun v i wr => ∃ k : Nat, k ≤ ds.length ∧ i = .int .i64 k ∧ NOwn wr w.heap.size (gridK ds (unuF ds) k) v ∧ Below w.heap.size w wr) (fun _ i _ => ds.length - (intOf i).toNat)
  case atStart =>
    refine ⟨0, Nat.zero_le _, rfl, NOwn.nil_of ⟨rfl, Or.inr ⟨_, 0, #[], rfl, Nat.le_refl _, HE0.out, Nat.le_refl _, by unfold maxLen; omega, rfl, rfl⟩⟩, HB0.out⟩
  case round =>
    obtain ⟨k, hk, rfl, hown, hb⟩ := hrel
    obtain ⟨wo, rfl⟩ : ∃ wo : World, wo = wr := ⟨_, rfl⟩
    have HO := mkHid hown
    have HB := mkHid hb
    clear hown hb
    by_cases hlt : k < ds.length
    · obtain ⟨bl, off, c, rfl, c0, c1, c2, c3, -, i1, i2, hbk⟩ := HP.out.at k hlt
      obtain ⟨adk, capk, rfl, -, -, -⟩ := id hbk
      have hd4 := HAR.out _ (List.getElem_mem hlt)
      obtain ⟨n, hn⟩ : ∃ n : Nat, ds[k].1 = (n : Int) := ⟨ds[k].1.toNat, by omega⟩
      have hn4 : n ≤ 4 := by omega
      obtain ⟨hvb, han⟩ := varsB_ar hlt hn hn4
      have hsz : szT ds[k].2 ≤ 1048576 := by
        have := szT_lt_szL (bodies ds) k (by rw [bodies_length]; exact hlt)
        have e : (bodies ds)[k]'(by rw [bodies_length]; exact hlt) = ds[k].2 := by simp [bodies]
        rw [e] at this
        have := HZ.out
        omega
      have HVU : Hid (∀ W, Below w.heap.size w W → Calls Try.prog 74 #[.agg #[.int .i64 ds[k].2.op, .int .i64 ds[k].2.num, .slice adk ds[k].2.kids.length capk], .int .i64 (n : Int)] W (NewInts (varsOf (arN ds k) (bodyN ds k)) W)) := fun W hW => by
        have := specVars_calls ds[k].2 _ (n : Int) W (hbk.next hW) hsz ⟨by omega, by omega⟩
        rwa [hvb] at this
      rw [hn] at c0
      have HXL : Hid ((varsOf (arN ds k) (bodyN ds k)).length = n) := by rw [Hid, varsOf_length, han]
      have HAN := mkHid han
      obtain ⟨us, hus⟩ : ∃ us, us = varsOf (arN ds k) (bodyN ds k) := ⟨_, rfl⟩
      rw [← hus] at HVU HXL
      have HUF : Hid (∀ v, unuF ds k v = ((us[v]?).getD 0 == 0)) := fun v => by rw [hus]; rfl
      obtain ⟨o, ho⟩ : ∃ o, o = ds[k].2.op := ⟨_, rfl⟩
      obtain ⟨m, hm⟩ : ∃ m, m = ds[k].2.num := ⟨_, rfl⟩
      obtain ⟨z, hz9⟩ : ∃ z, z = ds[k].2.kids.length := ⟨_, rfl⟩
      rw [← ho] at c1
      rw [← hm] at c2
      rw [← hz9] at c3
      rw [← ho, ← hm, ← hz9] at HVU
      have e0 := (HB.out.cell (cell_lt c0)).trans c0
      have e1 := (HB.out.cell (cell_lt c1)).trans c1
      have e2 := (HB.out.cell (cell_lt c2)).trans c2
      have e3 := (HB.out.cell (cell_lt c3)).trans c3
      have hkI : (k : Int) < (ds.length : Int) := by omega
      clear c0 c1 c2 c3 i1 i2 hbk hd4 hn hvb han hsz hus ho hm hz9
      go_wp2_with fail
      go_region_with ((go_at_call 74; refine (HVU.out wo.drew HB.out.drew).mono ?_; rintro e wv ⟨vv, rfl, hvv, hbv⟩; have HBV : Hid (Below wo.heap.size wo wv) := (Below.refl _ _).drew.trans hbv; obtain ⟨adu, cu, rfl, hcu1, hcu2, -⟩ := id hvv; have HVV := mkHid hvv.inn; rw [HXL.out] at hcu1 HVV ⊢; unfold maxLen at hcu2; clear hvv hbv))
      all_goals
       have HBWV : Hid (Below w.heap.size w wv) := HB.out.trans (HBV.out.mono HB.out.size)
       have HO9 : Hid (NOwn wv w.heap.size (gridK ds (unuF ds) k) u3) := HO.out.next HBV.out
       go_wp2_with fail
       go_loopw [6, 7] (fun rv i wr => ∃ v : Nat, v ≤ n ∧ i = .int .i64 v ∧ wr.ownsRow wv.heap.size 4 1 rv v (((List.range v).map (unuF ds k)).map .bool) ∧ rv ≠ .slice none 0 0 ∧ Below wv.heap.size wv wr) (fun _ i _ => n - (intOf i).toNat)
       case atStart =>
         refine ⟨0, Nat.zero_le _, rfl, ⟨rfl, Or.inr ⟨_, 0, #[], rfl, Nat.le_refl _, Deep.blk_alloc_new _ _, Nat.le_refl _, by unfold maxLen; omega, rfl, rfl⟩⟩, by simp, box_below _ _⟩
       case round =>
         obtain ⟨v, hv, rfl, hrow, hne, hb⟩ := hrel
         have HRW := mkHid hrow
         have HNE := mkHid hne
         have HBR := mkHid hb
         have HBW : Hid (Below w.heap.size w wr) := HBWV.out.trans (hb.mono HBWV.out.size)
         have hsw := hb.size
         have hsb := HBWV.out.size
         clear hrow hne hb
         by_cases hvl : v < n
         · have HRX : Hid (∀ o, (wr.alloc o).ownsRow wv.heap.size 4 1 u6 v (((List.range v).map (unuF ds k)).map .bool)) := fun o => own_keep HRW.out fun j _ hj => Deep.blk_alloc_lt _ _ _ hj
           obtain ⟨xs, hxs⟩ : ∃ xs, xs = ((List.range v).map (unuF ds k)).map Value.bool := ⟨_, rfl⟩
           have HXS := mkHid hxs
           rw [← hxs] at HRX
           obtain ⟨bu, ou, hau, -, r0w⟩ := ints_at HVV.out v (by rw [HXL.out]; exact hvl)
           subst hau
           have r0 := (HBR.out.cell (cell_lt r0w)).trans r0w
           have hvI : (v : Int) < (n : Int) := by omega
           obtain ⟨x, hx⟩ : ∃ x, x = (us[v]?).getD 0 := ⟨_, rfl⟩
           rw [← hx] at r0
           have HX9 : Hid (unuF ds k v = (x == 0)) := by rw [Hid, HUF.out, hx]
           clear hxs hx r0w
           go_wp2_with (first
             | (at_builtin; refine wpList_append_own _ rfl _ _ 74 rfl wv.heap.size 4 iB zB 1 1 Try.underlying74 HBo.out.1 HBo.out.2.1 HBo.out.2.2.1 HBo.out.2.2.2.1 HBo.out.2.2.2.2 (by decide) u6 v xs rfl (HRX.out _) ⟨wr.heap.size, 0, none⟩ 1 1 [.bool (x == 0)] rfl rfl (fun j u hu => by rw [WideShapes.add_plain, Nat.zero_add]; exact box_cell wr #[.bool (x == 0)] _ j u (by simpa using hu)) (fun u hu => by simp only [List.mem_cons, List.not_mem_nil, or_false] at hu; rw [hu]; rfl) (by unfold maxLen; omega) (by omega) (by rw [Deep.nblk_alloc]; omega) ?_; intro v' w3 hown' hgrow hnil; have HX3 := mkHid hown'; have HG3 := mkHid hgrow; have HN3 : Hid (v' ≠ .slice none 0 0) := (fun e => HNE.out (hnil.1 e).1); clear hown' hgrow hnil)
             | go_in)
           have HB3 : Hid (Below wv.heap.size wv w3) := by
             have hbw := HBR.out
             have hg := HG3.out
             refine ⟨by rw [hg.os]; exact hbw.os, by rw [hg.tape]; exact hbw.tape, by rw [hg.output]; exact hbw.output, Nat.le_trans hbw.size (by have := hg.size; rw [Deep.nblk_alloc] at this; omega), fun j hj => ?_⟩
             exact ((hg.block j (by rw [Deep.nblk_alloc]; omega) (fun e => by have := own_block HRW.out e; omega)).trans (Deep.blk_alloc_lt _ _ _ (by omega))).trans (hbw.block j hj)
           have HR3 : Hid (w3.ownsRow wv.heap.size 4 1 v' (v + 1) (((List.range (v + 1)).map (unuF ds k)).map .bool)) := by
             rw [List.range_succ, List.map_append, List.map_append, List.map_singleton, List.map_singleton, HX9.out]
             rw [HXS.out] at HX3
             exact HX3.out
           exact ⟨⟨v + 1, by omega, by go_num, HR3.out, HN3.out, HB3.out⟩, by simp [intOf]; omega⟩
         · have hve : v = n := by omega
           obtain ⟨b, cap, hvv, hbl, hrat⟩ := own_rowAt (r := (List.range v).map (unuF ds k)) HRW.out (by simp) HNE.out
           rw [hve] at hvv hrat
           have HRA := mkHid hrat
           subst hvv
           have HBO := mkHid HBR.out
           obtain ⟨bs, q1, q2, q3, q4⟩ := HO9.out
           have Q1 := mkHid q1
           have Q2 := mkHid q2
           have Q3 := mkHid q3
           have Q4 := mkHid q4
           have hkl : (gridK ds (unuF ds) k).length = k := gridK_length _ _ _
           rw [hkl] at q3
           have HKL := mkHid hkl
           have HOX : Hid (∀ o, (wr.alloc o).ownsRow w.heap.size 74 1 u3 k (cellsN (gridK ds (unuF ds) k) bs)) := fun o =>
             own_keep q3 fun j _ hj => (Deep.blk_alloc_lt _ _ _ (Nat.lt_of_lt_of_le hj hsw)).trans (HBO.out.block j hj)
           obtain ⟨xs, hxs⟩ : ∃ xs, xs = cellsN (gridK ds (unuF ds) k) bs := ⟨_, rfl⟩
           have HXS := mkHid hxs
           rw [← hxs] at HOX
           have HX0 := mkHid (HOX.out (.cells #[] 4))
           clear q1 q2 q3 q4 hxs hkl hve hrat
           go_wp2_with (first
             | (at_builtin; refine wpList_append_own _ rfl _ _ 25 rfl w.heap.size 74 iE zE 1 24 Try.underlying25 HE.out.1 HE.out.2.1 HE.out.2.2.1 HE.out.2.2.2.1 HE.out.2.2.2.2 (by decide) u3 k xs rfl (HOX.out _) ⟨wr.heap.size, 0, none⟩ 1 1 [.slice (some ⟨b, 0, none⟩) n cap] rfl rfl (fun j u hu => by rw [WideShapes.add_plain, Nat.zero_add]; exact box_cell wr #[.slice (some ⟨b, 0, none⟩) n cap] _ j u (by simpa using hu)) (fun u hu => by simp only [List.mem_cons, List.not_mem_nil, or_false] at hu; rw [hu]; rfl) (by unfold maxLen; omega) (by omega) (by rw [Deep.nblk_alloc]; omega) ?_; intro v' w3 hown' hgrow hnil; have HX3 := mkHid hown'; have HG3 := mkHid hgrow; clear hown' hgrow hnil)
             | go_in)
           have HN3 : Hid (NOwn w3 w.heap.size (gridK ds (unuF ds) (k + 1)) v') := by
             rw [gridK_succ, HAN.out]
             refine NOwn.push (w := wv) (w1 := wr) (b := b) (cap := cap) Q1.out Q2.out Q3.out Q4.out (fun j _ hj => HBO.out.block j hj) hbl (by omega) HRA.out ?_ (fun j hj hne => ?_) hsw
             · rw [HKL.out, List.length_map, List.length_range, ← HXS.out]; exact HX3.out
             · exact (HG3.out.block j (by rw [Deep.nblk_alloc]; omega) hne).trans (Deep.blk_alloc_lt _ _ _ hj)
           have HB3 : Hid (Below w.heap.size w w3) := by
             have hbw := HBW.out
             have hg := HG3.out
             refine ⟨by rw [hg.os]; exact hbw.os, by rw [hg.tape]; exact hbw.tape, by rw [hg.output]; exact hbw.output, Nat.le_trans hbw.size (by have := hg.size; rw [Deep.nblk_alloc] at this; omega), fun j hj => ?_⟩
             exact ((hg.block j (by rw [Deep.nblk_alloc]; omega) (fun e => by have := own_block HX0.out e; omega)).trans (Deep.blk_alloc_lt _ _ _ (by omega))).trans (hbw.block j hj)
           exact ⟨⟨k + 1, by omega, by go_num, HN3.out, HB3.out⟩, by simp [intOf]; omega⟩
    · have hke : k = ds.length := by omega
      have HV : Hid (NOwn wo w.heap.size (gridN ds (unuF ds)) u3) := by have := HO.out; rw [hke] at this; exact this
      clear hke
      go_wp2_with fail
      go_ret
      exact ⟨_, rfl, HV.out, HB.out⟩
end Go.Proofs.Ytocnkjicmchbdaa
/-
  THE PROGRAM's ofArgs, of what UnusedArgs$1 says.
-/
namespace Go.Proofs.Ytocnkjicmchbdaa
set_option linter.unusedVariables false
set_option linter.unusedSimpArgs false
open Go.RowKit

set_option maxRecDepth 100000 in
set_option maxHeartbeats 1600000 in
theorem ofUnu_calls (ds : List Df) (f : Nat → Nat → Bool) (p : Value) (pb : Nat) (w : World) (hp : DIn w ds p) (h6 : ds.length ≤ 6) (har : ∀ d ∈ ds, 0 ≤ d.1 ∧ d.1 ≤ 4)
    (hsay : ∀ (W : World) (i v : Nat), Below w.heap.size w W → i < ds.length → v < arN ds i → Calls Try.prog 75 #[.int .i64 (i : Int), .int .i64 (v : Int), .pointer (some ⟨pb, 0, none⟩)] W fun e w' => e = .returned (.bool (f i v)) ∧ Below W.heap.size W w') :
    Calls Try.prog 64 #[p, .func (.func 75) #[] #[.pointer (some ⟨pb, 0, none⟩)]] w (NewN (gridN ds f) w) := by
  have HP := mkHid hp
  have HSAY := mkHid hsay
  have HAR := mkHid har
  obtain ⟨adp, capp, rfl, hpl, hpm, -⟩ := hp
  unfold maxLen at hpm
  clear hsay har
  obtain ⟨iE, zE, hiE, hzE, hsE, hbE, hcE⟩ := infoE1
  have HE : Hid (Try.prog.info? 74 = some iE ∧ iE.zero = some zE ∧ iE.size = 1 ∧ iE.bytes = 24 ∧ zE.cells.size = 1) := ⟨hiE, hzE, hsE, hbE, hcE⟩
  clear hiE hzE hsE hbE hcE
  go_enter Try.func64, Try.ntmps64
  go_wp2_with fail
  go_loopw [5, 12] (fun v i wr => ∃ k : Nat, k ≤ ds.length ∧ i = .int .i64 k ∧ NOwn wr w.heap.size (gridK ds f k) v ∧ Below w.heap.size w wr) (fun _ i _ => ds.length - (intOf i).toNat)
  case atStart => exact ⟨0, Nat.zero_le _, rfl, NOwn.nil _ _, Below.refl _ _⟩
  case round =>
    obtain ⟨k, hk, rfl, hown, hb⟩ := hrel
    obtain ⟨wo, rfl⟩ : ∃ wo : World, wo = wr := ⟨_, rfl⟩
    have HO := mkHid hown
    have HB := mkHid hb
    clear hown hb
    by_cases hlt : k < ds.length
    · obtain ⟨bl, off, c, rfl, c0, c1, c2, c3, -, -, -, hkk⟩ := (HP.out.next HB.out).at k hlt
      obtain ⟨adk, capk, rfl, -, -, -⟩ := id hkk
      have hd4 := HAR.out _ (List.getElem_mem hlt)
      obtain ⟨n, hn⟩ : ∃ n : Nat, ds[k].1 = (n : Int) := ⟨ds[k].1.toNat, by omega⟩
      have hn4 : n ≤ 4 := by omega
      have HAN : Hid (arN ds k = n) := by unfold Hid arN; rw [List.getElem?_eq_getElem hlt]; simp; omega
      obtain ⟨o, ho⟩ : ∃ o, o = ds[k].2.op := ⟨_, rfl⟩
      obtain ⟨m, hm⟩ : ∃ m, m = ds[k].2.num := ⟨_, rfl⟩
      obtain ⟨q, hq⟩ : ∃ q, q = ds[k].2.kids.length := ⟨_, rfl⟩
      rw [hn] at c0
      rw [← ho] at c1
      rw [← hm] at c2
      rw [← hq] at c3
      have hmk := make_boolx n (by omega)
      have HBD : Hid (Below wo.heap.size wo (wo.alloc (.cells #[.int .i64 (n : Int), .int .i64 o, .int .i64 m, .slice adk q capk] 84))) := box_below _ _
      obtain ⟨wd, hwd⟩ : ∃ wd, wd = wo.alloc (.cells #[.int .i64 (n : Int), .int .i64 o, .int .i64 m, .slice adk q capk] 84) := ⟨_, rfl⟩
      have HWD := mkHid hwd
      rw [← hwd] at HBD
      have hsd : wd.heap.size = wo.heap.size + 1 := by rw [hwd, Deep.nblk_alloc]
      have HBM : Hid (Below (wo.heap.size + 1) wd (wd.alloc (.cells (madeCells #[.bool false] n) 4))) := by rw [← hsd]; exact box_below _ _
      have HRS : Hid (RowAt (wd.alloc (.cells (madeCells #[.bool false] n) 4)) (wo.heap.size + 1) n (halfR n (f k) 0)) := by rw [halfR_zero, ← hsd]; exact rowAt_start wd n (by omega)
      have HSD := mkHid hsd
      clear hsd
      clear hkk hd4 hn ho hm hq hwd
      go_wp2_with fail
      rw [← HWD.out]
      go_loopw [22] (fun i wr => ∃ v : Nat, v ≤ n ∧ i = .int .i64 v ∧ RowAt wr (wo.heap.size + 1) n (halfR n (f k) v) ∧ Below (wo.heap.size + 1) wd wr) (fun i _ => n - (intOf i).toNat)
      case atStart => exact ⟨0, Nat.zero_le _, rfl, HRS.out, HBM.out⟩
      case round =>
        obtain ⟨v, hv, rfl, hrow, hb⟩ := hrel
        have HBR := mkHid hb
        have HRW := mkHid hrow
        have HBW : Hid (Below w.heap.size w wr) := HB.out.trans ((HBD.out.trans (hb.mono (by omega))).mono HB.out.size)
        clear hb hrow c0 c1 c2 c3
        by_cases hvl2 : v < n
        · have hvn : v < arN ds k := by rw [HAN.out]; exact hvl2
          have hvI : (v : Int) < (n : Int) := by omega
          go_wp2_with fail
          refine (HSAY.out wr k v HBW.out hlt hvn).mono ?_
          rintro e w3 ⟨rfl, hb3⟩
          have hr3 : RowAt w3 (wo.heap.size + 1) n (halfR n (f k) v) := HRW.out.blk (hb3.block _ HRW.out.lt)
          have HB3 : Hid (Below (wo.heap.size + 1) wd w3) := HBR.out.trans (hb3.mono (by have := HBR.out.size; have := HSD.out; omega))
          have HR4 : Hid (RowAt (w3.setCell ⟨wo.heap.size + 1, v, none⟩ (.bool (f k v))) (wo.heap.size + 1) n (halfR n (f k) (v + 1))) := by have := hr3.set v (f k v); rwa [halfR_succ] at this
          have HB4 : Hid (Below (wo.heap.size + 1) wd (w3.setCell ⟨wo.heap.size + 1, v, none⟩ (.bool (f k v)))) := HB3.out.setCell (Nat.le_refl _) _
          obtain ⟨-, -, fr, hrr, hfr⟩ := hr3
          have x0 := hrr.cell (i := v) hvl2
          have xf := hrr.frozen v
          obtain ⟨y, hy⟩ : ∃ y, y = f k v := ⟨_, rfl⟩
          rw [← hy] at HR4 HB4 ⊢
          clear hb3 hrr hfr hy
          go_wp2_with fail
          go_roundw
          case rel => exact ⟨v + 1, by omega, by go_num, HR4.out, HB4.out⟩
          case measure => simp [intOf]; omega
        · have hve : v = n := by omega
          have HRE : Hid (RowAt wr (wo.heap.size + 1) n ((List.range (arN ds k)).map (f k))) := by rw [HAN.out]; have := HRW.out; rw [hve, halfR_end] at this; exact this
          have HRL : Hid (((List.range (arN ds k)).map (f k)).length = n) := by simp [Hid, HAN.out]
          have hbo : Below wo.heap.size wo wr := HBD.out.trans (HBR.out.mono (by omega))
          have HBO := mkHid hbo
          obtain ⟨bs, q1, q2, q3, q4⟩ := HO.out
          have Q1 := mkHid q1
          have Q2 := mkHid q2
          have Q3 := mkHid q3
          have Q4 := mkHid q4
          rw [gridK_length] at q3
          have HOX : Hid (∀ o, (wr.alloc o).ownsRow w.heap.size 74 1 u5 k (cellsN (gridK ds f k) bs)) := fun o =>
            own_keep q3 fun j _ hj => (Deep.blk_alloc_lt _ _ _ (Nat.lt_of_lt_of_le hj hbo.size)).trans (hbo.block j hj)
          obtain ⟨xs, hxs⟩ : ∃ xs, xs = cellsN (gridK ds f k) bs := ⟨_, rfl⟩
          have HXS := mkHid hxs
          rw [← hxs] at HOX
          have HX0 := mkHid (HOX.out (.cells #[] 4))
          clear q1 q2 q3 q4 hxs
          clear hbo hve
          have hwos := HBO.out.size
          have hwsz := HB.out.size
          have hdsz := HBD.out.size
          go_wp2_with (first
            | (at_builtin; refine wpList_append_own _ rfl _ _ 25 rfl w.heap.size 74 iE zE 1 24 Try.underlying25 HE.out.1 HE.out.2.1 HE.out.2.2.1 HE.out.2.2.2.1 HE.out.2.2.2.2 (by decide) u5 k xs rfl (HOX.out _) ⟨wr.heap.size, 0, none⟩ 1 1 [.slice (some ⟨wo.heap.size + 1, 0, none⟩) n n] rfl rfl (fun j u hu => by rw [WideShapes.add_plain, Nat.zero_add]; exact box_cell wr #[.slice (some ⟨wo.heap.size + 1, 0, none⟩) n n] _ j u (by simpa using hu)) (fun u hu => by simp only [List.mem_cons, List.not_mem_nil, or_false] at hu; rw [hu]; rfl) (by unfold maxLen; omega) (by omega) (by rw [Deep.nblk_alloc]; omega) ?_; intro v' w3 hown' hgrow hnil; have HX3 : Hid (w3.ownsRow w.heap.size 74 1 v' (k + 1) (xs ++ [.slice (some ⟨wo.heap.size + 1, 0, none⟩) n n])) := hown'; have HG3 := mkHid hgrow; clear hown' hgrow hnil)
            | go_in)
          have HN3 : Hid (NOwn w3 w.heap.size (gridK ds f (k + 1)) v') := by
            rw [gridK_succ]
            refine NOwn.push (w := wo) (w1 := wr) (b := wo.heap.size + 1) (cap := n) Q1.out Q2.out Q3.out Q4.out (fun j _ hj => HBO.out.block j hj) (by omega) (by omega) HRE.out ?_ (fun j hj hne => ?_) HBO.out.size
            · rw [HRL.out, gridK_length, ← HXS.out]; exact HX3.out
            · exact (HG3.out.block j (by rw [Deep.nblk_alloc]; omega) hne).trans (Deep.blk_alloc_lt _ _ _ hj)
          have HB3 : Hid (Below w.heap.size w w3) := by
            have hbw := HB.out.trans (HBO.out.mono HB.out.size)
            have hg := HG3.out
            refine ⟨by rw [hg.os]; exact hbw.os, by rw [hg.tape]; exact hbw.tape, by rw [hg.output]; exact hbw.output, Nat.le_trans hbw.size (by have := hg.size; rw [Deep.nblk_alloc] at this; omega), fun j hj => ?_⟩
            exact ((hg.block j (by rw [Deep.nblk_alloc]; omega) (fun e => by have := own_block HX0.out e; omega)).trans (Deep.blk_alloc_lt _ _ _ (by omega))).trans (hbw.block j hj)
          refine ⟨⟨k + 1, by omega, by go_num, HN3.out, HB3.out⟩, by simp [intOf]; omega⟩
    · have hke : k = ds.length := by omega
      have HV : Hid (NOwn wo w.heap.size (gridN ds f) u5) := by have := HO.out; rw [hke] at this; exact this
      clear hke
      go_wp2_with fail
      go_ret
      exact ⟨_, rfl, HV.out, HB.out⟩
end Go.Proofs.Ytocnkjicmchbdaa
/-
  THE LAWS' OWN COPY OF AN ARGUMENT (toExpr, toExprS), ITS BLOCKS ALL DISTINCT: the same trees, in new memory; nothing that was there is changed.
-/
namespace Go.Proofs.Ytocnkjicmchbdaa
set_option linter.unusedVariables false
set_option linter.unusedSimpArgs false
open Go.RowKit

/-- trees whose blocks are distinct, from lo on -/
def Fresh (w : World) (lo : Nat) (ks : List Tr) (c : Value) : Prop := ∃ fp, KidsFp w 31 ks fp c ∧ fp.Nodup ∧ ∀ k ∈ fp, lo ≤ k
theorem Fresh.on {w : World} {lo : Nat} {ks : List Tr} {c : Value} (h : Fresh w lo ks c) : KidsOn w (Btw lo w.heap.size) ks c := by
  obtain ⟨fp, h1, h2, h3⟩ := h
  exact h1.on fun k hk => ⟨h3 k hk, h1.lt k hk⟩
theorem Fresh.mono {w w' : World} {lo lo' : Nat} {ks : List Tr} {c : Value} (h : Fresh w lo ks c) (hl : lo' ≤ lo) (hw : ∀ k, lo ≤ k → k < w.heap.size → w'.heap[k]? = w.heap[k]?) : Fresh w' lo' ks c := by
  obtain ⟨fp, h1, h2, h3⟩ := h
  exact ⟨fp, h1.keep fun k hk => hw k (h3 k hk) (h1.lt k hk), h2, fun k hk => Nat.le_trans hl (h3 k hk)⟩
theorem Fresh.next {w w' : World} {lo : Nat} {ks : List Tr} {c : Value} (h : Fresh w lo ks c) (hb : Below w.heap.size w w') : Fresh w' lo ks c := h.mono (Nat.le_refl _) fun k _ hk => hb.block k hk
theorem Fresh.setCell {w : World} {lo : Nat} {ks : List Tr} {c : Value} (h : Fresh w lo ks c) {a : Addr} (ha : a.block < lo) (u : Value) : Fresh (w.setCell a u) lo ks c :=
  h.mono (Nat.le_refl _) fun k hk _ => Below.heap_setCell _ _ _ _ (by omega)

/-- a call has handed back these trees in new memory, all blocks distinct -/
def FreshKids (ks : List Tr) (w : World) (e : Ending) (w' : World) : Prop := ∃ v, e = .returned v ∧ Fresh w' w.heap.size ks v ∧ Below w.heap.size w w'
/-- .. one tree -/
def FreshTr (o n : Int) (ks : List Tr) (w : World) (e : Ending) (w' : World) : Prop := ∃ v, e = .returned (.agg #[.int .i64 o, .int .i64 n, v]) ∧ Fresh w' w.heap.size ks v ∧ Below w.heap.size w w'

def FToSSaid (ks : List Tr) : Prop := ∀ (c : Value) (w : World), In w ks c → szL ks ≤ 1048576 → Calls Try.prog 54 #[c] w (FreshKids ks w)
def FToSaid (ks : List Tr) : Prop := ∀ (o n : Int) (c : Value) (w : World), In w ks c → szL ks ≤ 1048576 → Calls Try.prog 12 #[.agg #[.int .i64 o, .int .i64 n, c]] w (FreshTr o n ks w)

set_option maxHeartbeats 400000 in
theorem fto_of (ks : List Tr) (h : FToSSaid ks) : FToSaid ks := by
  intro o n c w hk hsz
  have HK : Hid (In w ks c) := hk
  have HS : Hid (FToSSaid ks) := h
  clear h hk
  go_enter Try.func12, Try.ntmps12
  go_wp2_with fail
  refine (HS.out c _ ?_ hsz).mono ?_
  · exact HK.out.next ((((Below.refl _ _).alloc (Nat.le_refl _) _).alloc (by simp) _).alloc (by simp; omega) _)
  rintro e w1 ⟨v, rfl, hv, hb⟩
  obtain ⟨hc, hf⟩ := bcell hb
  have hz : w.heap.size + 2 < w1.heap.size := by have := hb.size; simp at this; omega
  have hlo : w.heap.size + 3 ≤ w1.heap.size := by omega
  have HV : Hid (Fresh w1 (w.heap.size + 3) ks v) := hv.mono (by simp) (fun _ _ _ => rfl)
  have HB : Hid (Below w.heap.size w w1) := ((((Below.refl _ _).alloc (Nat.le_refl _) _).alloc (by simp) _).alloc (by simp; omega) _).trans (hb.mono (by simp; omega))
  obtain ⟨fp, ⟨ad, cap, rfl, _, _, _⟩, _, _⟩ := hv
  go_wp2_with fail
  refine bodyPost_ret (v := .agg #[.int .i64 o, .int .i64 n, .slice ad ks.length cap]) (by simp [results, Try.results12, go_sem, hc, hf, hz]) rfl ⟨_, rfl, ?_, ?_⟩
  · exact ((((HV.out.setCell (by simp <;> omega) _).setCell (by simp <;> omega) _).setCell (by simp <;> omega) _).setCell (by simp <;> omega) _).mono (by omega) (fun _ _ _ => rfl)
  · exact (((HB.out.setCell (by simp; omega) _).setCell (by simp) _).setCell (by simp) _).setCell (by simp) _


/-- what holds of the copy of a list behind k rounds -/
def FToRel (ks : List Tr) (w : World) (k : Nat) (wr : World) : Prop :=
  ∃ (f : Nat → Value) (fps : List (List Nat)), fps.length = k ∧ wr.rowIs w.heap.size 31 (ks.length * 3) f ∧ (∀ j (_ : j < k) (hj : j < ks.length), ∃ g, fps[j]? = some g ∧ TrFp wr 31 ks[j] g (f (j * 3)) (f (j * 3 + 1)) (f (j * 3 + 2))) ∧ fps.flatten.Nodup ∧ (∀ b ∈ fps.flatten, w.heap.size < b ∧ b < wr.heap.size) ∧ Below w.heap.size w wr

theorem ftoRel_start (ks : List Tr) (w : World) (C : Array Value) (h : C.size = ks.length * 3) : FToRel ks w 0 (w.alloc (.cells C 31)) := by
  refine ⟨fun i => C.getD i undef, [], rfl, ⟨C, Deep.blk_alloc_new _ _, h, fun i hi => ?_⟩, fun j hj => absurd hj (by omega), by simp, by simp, (Below.refl _ _).alloc (Nat.le_refl _) _⟩
  simp [Array.getElem?_eq_getElem (h ▸ hi : i < C.size), Array.getD, (h ▸ hi : i < C.size)]

theorem ftoRel_step (ks : List Tr) (w wr w1 : World) (k : Nat) (hk : k < ks.length) (h : FToRel ks w k wr) (v : Value) (hb : Below wr.heap.size wr w1) (hv : Fresh w1 wr.heap.size (ks[k]).kids v) (ho : I64 (ks[k]).op) (hn : I64 (ks[k]).num) :
    FToRel ks w (k + 1) (((w1.setCell ⟨w.heap.size, k * 3, none⟩ (.int .i64 (ks[k]).op)).setCell ⟨w.heap.size, k * 3 + 1, none⟩ (.int .i64 (ks[k]).num)).setCell ⟨w.heap.size, k * 3 + 2, none⟩ v) := by
  obtain ⟨f, fps, hfl, hr, ht, hnd, hfb, hbw⟩ := h
  obtain ⟨fp, v1, v2, v3⟩ := hv
  have hlt := hr.lt
  have hr1 : w1.rowIs w.heap.size 31 (ks.length * 3) f := hr.of_block (hb.block _ hlt)
  have hsz := hb.size
  have keep : ∀ b, b ≠ w.heap.size → (((w1.setCell ⟨w.heap.size, k * 3, none⟩ (.int .i64 (ks[k]).op)).setCell ⟨w.heap.size, k * 3 + 1, none⟩ (.int .i64 (ks[k]).num)).setCell ⟨w.heap.size, k * 3 + 2, none⟩ v).heap[b]? = w1.heap[b]? :=
    fun b hne => ((Below.heap_setCell _ _ _ _ hne).trans (Below.heap_setCell _ _ _ _ hne)).trans (Below.heap_setCell _ _ _ _ hne)
  have hs3 : k * 3 + 2 < ks.length * 3 := by omega
  refine ⟨_, fps ++ [fp], by simp [hfl], ((hr1.set (k * 3) _).set (k * 3 + 1) _).set (k * 3 + 2) _, fun j hj hjl => ?_, ?_, ?_, ?_⟩
  · by_cases hjk : j = k
    · subst hjk
      have : TrFp w1 31 ks[j] fp (.int .i64 (ks[j]).op) (.int .i64 (ks[j]).num) v := trFp_iff.2 ⟨rfl, rfl, ho, hn, v1⟩
      have h2 := TrFp.keep _ _ _ _ _ (fun b hbm => keep b (by have := v3 b hbm; omega)) this
      refine ⟨fp, by rw [← hfl]; simp, ?_⟩
      simpa using h2
    · obtain ⟨g, hg, h0⟩ := ht j (by omega) hjl
      have hgm : ∀ b ∈ g, w.heap.size < b ∧ b < wr.heap.size := fun b hbm => hfb b (List.mem_flatten.2 ⟨g, List.mem_of_getElem? hg, hbm⟩)
      have h2 := TrFp.keep _ _ _ _ _ (fun b hbm => (keep b (by have := hgm b hbm; omega)).trans (hb.block b (hgm b hbm).2)) h0
      have e1 : ∀ m, m < 3 → j * 3 + m ≠ k * 3 + 2 ∧ j * 3 + m ≠ k * 3 + 1 ∧ j * 3 + m ≠ k * 3 := fun m hm => by omega
      have a0 := e1 0 (by omega)
      have a1 := e1 1 (by omega)
      have a2 := e1 2 (by omega)
      simp only [Nat.add_zero] at a0
      refine ⟨g, by rw [List.getElem?_append_left (by omega)]; exact hg, ?_⟩
      simpa [a0, a1, a2] using h2
  · rw [List.flatten_append, List.nodup_append]
    refine ⟨hnd, by simpa using v2, fun x hx y hy e => ?_⟩
    have h1 := (hfb x hx).2
    have h2 := v3 y (by simpa using hy)
    omega
  · intro b hbm
    simp only [size_setCell]
    simp only [List.flatten_append, List.mem_append] at hbm
    rcases hbm with hbm | hbm
    · have := hfb b hbm; omega
    · have hbm' : b ∈ fp := by simpa using hbm
      have h1 := v3 b hbm'
      have h2 := v1.lt b hbm'
      omega
  · exact (((hbw.trans (hb.mono (Nat.le_of_lt hlt))).setCell (by simp) _).setCell (by simp) _).setCell (by simp) _

theorem ftoRel_end (ks : List Tr) (w wr : World) (h : FToRel ks w ks.length wr) (hl : ks.length ≤ 1048576) : FreshKids ks w (.returned (.slice (some ⟨w.heap.size, 0, none⟩) ks.length ks.length)) wr := by
  obtain ⟨f, fps, hfl, hr, ht, hnd, hfb, hbw⟩ := h
  have hlt := hr.lt
  obtain ⟨C, hC, _, _⟩ := id hr
  refine ⟨_, rfl, ⟨w.heap.size :: fps.flatten, ⟨_, _, rfl, Nat.le_refl _, by unfold maxLen; omega, Or.inr ⟨_, _, C, fps, rfl, hC, rfl, RowFp.of _ _ _ hfl fun i hi => ?_⟩⟩, ?_, ?_⟩, hbw⟩
  · obtain ⟨g, hg, h1⟩ := ht i hi hi
    refine ⟨g, hg, f (i * 3), f (i * 3 + 1), f (i * 3 + 2), ?_, ?_, ?_, h1⟩
    · simpa using hr.cell (i := i * 3) (by omega)
    · simpa [Nat.zero_add] using hr.cell (i := i * 3 + 1) (by omega)
    · simpa [Nat.zero_add] using hr.cell (i := i * 3 + 2) (by omega)
  · rw [List.nodup_cons]
    exact ⟨fun hm => by have := (hfb _ hm).1; omega, hnd⟩
  · intro b hbm
    rw [List.mem_cons] at hbm
    rcases hbm with rfl | hbm
    · exact Nat.le_refl _
    · have := (hfb b hbm).1; omega

set_option maxHeartbeats 400000 in
theorem ftoS_step (ks : List Tr) (ih : ∀ i (hi : i < ks.length), FToSaid (ks[i]).kids) : FToSSaid ks := by
  intro c w hk hsz
  have HI : Hid (∀ i (hi : i < ks.length), FToSaid (ks[i]).kids) := ih
  have HK : Hid (In w ks c) := hk
  have HZ : Hid (szL ks ≤ 1048576) := hsz
  have hlen : ks.length ≤ 1048576 := by rw [szL_sum] at hsz; omega
  clear ih hsz
  obtain ⟨ad, cap, rfl, hl, hm, hrow⟩ := hk
  clear hrow hm hl
  obtain ⟨C, hC, hmk⟩ := make_exprs ks.length hlen
  have HC : Hid (C.size = ks.length * 3) := hC
  clear hC
  go_enter Try.func54, Try.ntmps54
  go_wp2_with fail
  go_loopw [4] (fun i wr => ∃ k : Nat, k ≤ ks.length ∧ i = .int .i64 k ∧ FToRel ks w k wr) (fun i _ => ks.length - (intOf i).toNat)
  case atStart => exact ⟨0, Nat.zero_le _, rfl, ftoRel_start ks w C HC.out⟩
  case round =>
    obtain ⟨k, hk, rfl, hto⟩ := hrel
    have HT : Hid (FToRel ks w k wr) := hto
    obtain ⟨f, _, _, hr0, _, _, _, hb⟩ := hto
    have hlt0 := hr0.lt
    by_cases hlt : k < ks.length
    · have hrow' := HK.out.next hb
      obtain ⟨ad', cap', he, _, _, hr⟩ := hrow'
      cases he
      rcases hr with rfl | ⟨bl, off, rfl, _, hr⟩
      · simp at hlt
      obtain ⟨p, q, r, c0, c1, c2, ht⟩ := RowOn.at ks off k hlt hr
      obtain ⟨rfl, rfl, io, iN, hkk⟩ := trOn_iff.1 ht
      have HKK : Hid (In wr ks[k].kids r) := hkk
      have hkz : szL ks[k].kids ≤ 1048576 := by have := szL_kids_lt ks k hlt; have := HZ.out; omega
      have HR : Hid (wr.rowIs w.heap.size 31 (ks.length * 3) f) := hr0
      clear hkk ht hr hr0 hb
      go_wp2_with fail
      refine (HI.out k hlt _ _ r _ HKK.out hkz).mono ?_
      rintro e w1 ⟨v, rfl, hv, hb1⟩
      have hr1 : w1.rowIs w.heap.size 31 (ks.length * 3) f := HR.out.of_block (hb1.block _ hlt0)
      have HS : Hid (FToRel ks w (k + 1) (((w1.setCell ⟨w.heap.size, k * 3, none⟩ (.int .i64 (ks[k]).op)).setCell ⟨w.heap.size, k * 3 + 1, none⟩ (.int .i64 (ks[k]).num)).setCell ⟨w.heap.size, k * 3 + 2, none⟩ v)) := ftoRel_step ks w wr w1 k hlt HT.out v hb1 hv io iN
      obtain ⟨_, ⟨ad2, cap2, rfl, _, _, _⟩, _, _⟩ := hv
      have g0 := hr1.cell (i := k * 3) (by omega)
      have g1 := hr1.cell (i := k * 3 + 1) (by omega)
      have g2 := hr1.cell (i := k * 3 + 2) (by omega)
      have f0 := hr1.frozen (k * 3)
      have f1 := hr1.frozen (k * 3 + 1)
      have f2 := hr1.frozen (k * 3 + 2)
      clear hr1 hb1
      go_wp2_with fail
      go_roundw
      case rel => exact ⟨k + 1, by omega, by go_num, HS.out⟩
      case measure => simp [intOf]; omega
    · have hke : ks.length = k := by omega
      have HV : Hid (FreshKids ks w (.returned (.slice (some ⟨w.heap.size, 0, none⟩) ks.length ks.length)) wr) := by subst hke; exact ftoRel_end ks w wr HT.out hlen
      clear hke hr0 hb
      go_wp2_with fail
      go_ret
      exact HV.out

/-- THE COPY, FOR EVERY LIST OF TREES. -/
theorem ftoS_any : ∀ (n : Nat) (ks : List Tr), szL ks ≤ n → FToSSaid ks := by
  intro n
  induction n with
  | zero =>
    intro ks h
    exact ftoS_step ks fun i hi => absurd (szT_lt_szL ks i hi) (by omega)
  | succ n ih =>
    intro ks h
    exact ftoS_step ks fun i hi => fto_of _ (ih _ (by have := szL_kids_lt ks i hi; omega))

theorem ftoS_calls (ks : List Tr) : FToSSaid ks := ftoS_any _ ks (Nat.le_refl _)
theorem fto_calls (ks : List Tr) : FToSaid ks := fto_of ks (ftoS_calls ks)
end Go.Proofs.Ytocnkjicmchbdaa
/-
  TREES WHOSE BLOCKS ARE DISTINCT LIE IN PLAIN BLOCKS.
-/
namespace Go.Proofs.Ytocnkjicmchbdaa
set_option linter.unusedVariables false
set_option linter.unusedSimpArgs false
open Go.RowKit

mutual
theorem TrFp.plain {w : World} {T : TypeId} : ∀ (t : Tr) (fp : List Nat) (a b c : Value), TrFp w T t fp a b c → ∀ k ∈ fp, Pl w k
  | .node op n ks, fp, a, b, c, h => by
    simp only [TrFp] at h
    obtain ⟨-, -, -, -, ad, cap, -, -, -, h5⟩ := h
    rcases h5 with ⟨-, rfl⟩ | ⟨bl, off, C, fps, -, hb, rfl, r⟩
    · simp
    · intro k hk
      rw [List.mem_cons] at hk
      rcases hk with rfl | hk
      · exact ⟨cellsOf_lt hb, C, T, hb⟩
      · obtain ⟨f, hf, hkf⟩ := List.mem_flatten.1 hk
        exact RowFp.plain bl off ks fps r f hf k hkf
theorem RowFp.plain {w : World} {T : TypeId} (bl off : Nat) : ∀ (ks : List Tr) (fps : List (List Nat)), RowFp w T bl off ks fps → ∀ f ∈ fps, ∀ k ∈ f, Pl w k
  | [], fps, h => by
    simp only [RowFp] at h
    subst h
    simp
  | t :: ts, fps, h => by
    simp only [RowFp] at h
    obtain ⟨f, fs, rfl, ⟨a, b, c, -, -, -, ht⟩, hr⟩ := h
    intro g hg k hk
    rw [List.mem_cons] at hg
    rcases hg with rfl | hg
    · exact TrFp.plain t _ a b c ht k hk
    · exact RowFp.plain bl (off + 3) ts fs hr g hg k hk
end
theorem KidsFp.plain {w : World} {T : TypeId} {ks : List Tr} {fp : List Nat} {c : Value} (h : KidsFp w T ks fp c) : ∀ k ∈ fp, Pl w k :=
  TrFp.plain (.node 0 0 ks) fp _ _ c (trFp_iff.2 ⟨rfl, rfl, by simp [I64], by simp [I64], h⟩)
theorem Fresh.inP {w : World} {lo : Nat} {ks : List Tr} {c : Value} (h : Fresh w lo ks c) : InP w ks c := by
  obtain ⟨fp, h1, -, -⟩ := h
  exact h1.on h1.plain
end Go.Proofs.Ytocnkjicmchbdaa
