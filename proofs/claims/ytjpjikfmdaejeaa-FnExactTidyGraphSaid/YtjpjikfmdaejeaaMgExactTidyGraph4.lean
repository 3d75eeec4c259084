/-
  THE MODEL's CopyOrder AND CopyGraph.
-/
import Derived.Test.YtjpjikfmdaejeaaMgExactTidyGraph3
import Derived.Test.YtjpjikfmdaejeaaMgExactTidyGraph2
import Derived.Laws.OwnMore
import Derived.Test.YtjpjikfmdaejeaaMgExactTidyGraph1
import Derived.Test.YtjpjikfmdaejeaaProg
import Derived.Deep.RegionHeld3
import Derived.Deep.RegionWith
import Derived.Deep.DeepMust
import Derived.Deep.QuietTactic
import Derived.BigQuiet
namespace Go.Proofs.Ytjpjikfmdaejeaa
set_option linter.unusedVariables false
set_option linter.unusedSimpArgs false
open Go.RowKit

/-- a graph and ints, somewhere in memory, and whether -/
def GotGI (r : List Ce × List Nat) (ok : Bool) (w : World) (e : Ending) (w' : World) : Prop :=
  ∃ gv tv, e = .returned (.tuple #[gv, tv, .bool ok]) ∧ CIn w' r.1 gv ∧ IIn w' (plI r.2) tv ∧ Below w.heap.size w w'
theorem cin_nil (w : World) (ad : Option Addr) (cap : Nat) (h : cap ≤ maxLen) : CIn w [] (.slice ad 0 cap) := ⟨ad, cap, rfl, Nat.zero_le _, h, Or.inl rfl⟩
theorem iin_nil (w : World) (ad : Option Addr) (cap : Nat) (h : cap ≤ maxLen) : IIn w [] (.slice ad 0 cap) := ⟨ad, cap, rfl, Nat.zero_le _, h, Or.inl rfl⟩
theorem OwnC.cin {w : World} {lo : Nat} {S : Nat → Prop} {g : List Ce} {v : Value} (h : OwnC w lo S g v) (hS : ∀ k, S k → k < w.heap.size → lo ≤ k) : CIn w g v := (h.own hS).inn

set_option maxHeartbeats 800000 in
theorem specCopyG_calls (g : List Ce) (rs : List Int) (v rv : Value) (w : World) (hk : CIn w g v) (hr : IIn w rs rv) :
    Calls Try.prog 9 #[v, rv] w (GotGI (copyO g rs) (rootB g rs) w) := by
  have HK : Hid (CIn w g v) := hk
  have HR : Hid (IIn w rs rv) := hr
  clear hk hr
  go_enter Try.func9, Try.ntmps9
  go_wp2_with fail
  refine (l5Right_calls g rs _ _ _ HK.out HR.out).mono ?_
  rintro e w1 ⟨rfl, hb1⟩
  have HB1 : Hid (Below w.heap.size w w1) := hb1
  clear hb1
  cases hg : rootB g rs with
  | false =>
    have HV := mkHid (copyO_no hg)
    have HT := mkHid hg
    clear hg
    go_wp2_with fail
    go_ret3
    rw [HV.out, HT.out]
    exact ⟨_, _, rfl, cin_nil _ _ 0 (by simp [maxLen]), iin_nil _ _ 0 (by simp [maxLen]), (HB1.out.alloc HB1.out.size _).alloc (by rw [Deep.nblk_alloc]; have := HB1.out.size; omega) _⟩
  | true =>
    have HT := mkHid hg
    have HV := mkHid (copyO_yes hg)
    have HR2 : Hid (IIn w1 (plI (natL rs)) rv) := by
      have h := HR.out.next HB1.out
      rw [root_back hg] at h
      exact h
    clear hg
    go_wp2_with fail
    refine (l5Copy_calls g (natL rs) _ _ _ (HK.out.next HB1.out) HR2.out (rootB_iff.1 HT.out).1 (root_lt HT.out) (by rw [natL_len]; exact (rootB_iff.1 HT.out).2.1)).mono ?_
    rintro e w2 ⟨gv, tv, rfl, ho, hs, hb2⟩
    have HO := mkHid (ho.cin fun k h _ => h)
    have HS := mkHid hs.pin
    have HB2 : Hid (Below w.heap.size w w2) := HB1.out.trans (hb2.mono HB1.out.size)
    clear ho hs hb2
    go_wp2_with fail
    go_ret3
    rw [HV.out, HT.out]
    exact ⟨_, _, rfl, HO.out, HS.out, HB2.out⟩

set_option maxHeartbeats 800000 in
theorem specOrderG_calls (g : List Ce) (rs : List Int) (v rv : Value) (w : World) (hk : CIn w g v) (hr : IIn w rs rv) :
    Calls Try.prog 19 #[v, rv] w (NewInts (plI (orderO g rs)) w) := by
  have HK : Hid (CIn w g v) := hk
  have HR : Hid (IIn w rs rv) := hr
  clear hk hr
  go_enter Try.func19, Try.ntmps19
  go_wp2_with fail
  refine (l5Right_calls g rs _ _ _ HK.out HR.out).mono ?_
  rintro e w1 ⟨rfl, hb1⟩
  have HB1 : Hid (Below w.heap.size w w1) := hb1
  clear hb1
  cases hg : rootB g rs with
  | false =>
    have HV := mkHid (orderO_no hg)
    clear hg
    go_wp2_with fail
    go_ret
    rw [HV.out]
    exact ⟨_, rfl, no_ints _ _ _ _ (by simp [maxLen]), HB1.out.alloc HB1.out.size _⟩
  | true =>
    have HT := mkHid hg
    have HV := mkHid (orderO_yes hg)
    have HR2 : Hid (IIn w1 (plI (natL rs)) rv) := by
      have h := HR.out.next HB1.out
      rw [root_back hg] at h
      exact h
    clear hg
    go_wp2_with fail
    refine (l5Order_calls g (natL rs) _ _ _ (HK.out.next HB1.out) HR2.out (rootB_iff.1 HT.out).1 (root_lt HT.out) (by rw [natL_len]; exact (rootB_iff.1 HT.out).2.1)).mono ?_
    rintro e w2 ⟨tv, rfl, hs, hb2⟩
    have HS := mkHid (hs.lower HB1.out.size).row
    have HB2 : Hid (Below w.heap.size w w2) := HB1.out.trans (hb2.mono HB1.out.size)
    clear hs hb2
    go_wp2_with fail
    go_ret
    rw [HV.out]
    exact ⟨_, rfl, HS.out, HB2.out⟩
end Go.Proofs.Ytjpjikfmdaejeaa
/-
  THE MODEL's l5Skip: past indirections.
-/
namespace Go.Proofs.Ytjpjikfmdaejeaa
set_option linter.unusedVariables false
set_option linter.unusedSimpArgs false
open Go.RowKit

set_option maxHeartbeats 800000 in
theorem l5Skip_calls (g : List Ce) (a : Nat) (v : Value) (w : World) (hk : CIn w g v) (hg : graphB g 6 = true) (ha : a < g.length) :
    Calls Try.prog 46 #[v, .int .i64 (a : Int)] w fun e w' => e = .returned (.int .i64 (skipN g a : Int)) ∧ Below w.heap.size w w' := by
  have HK : Hid (CIn w g v) := hk
  have HG := mkHid hg
  have HSK : Hid (skipN g a = (followN g g.length a).getD a) := rfl
  clear hk hg
  go_enter Try.func46, Try.ntmps46
  go_wp2_with fail
  refine (l3Follow_calls g a _ _ HK.out ⟨6, HG.out⟩ ha).mono ?_
  rintro e w1 ⟨rfl, hb1⟩
  have HB1 : Hid (Below w.heap.size w w1) := hb1
  clear hb1
  rw [follow_enough HG.out a ha]
  cases hf : followN g g.length a with
  | none =>
    have HV : Hid (skipN g a = a) := by rw [Hid, HSK.out, hf]; rfl
    clear hf
    have e1 : folI none = -1 := rfl
    rw [e1]
    go_wp2_with fail
    go_ret
    exact ⟨ret_int (by rw [HV.out]), HB1.out⟩
  | some b =>
    have HV : Hid (skipN g a = b) := by rw [Hid, HSK.out, hf]; rfl
    clear hf
    have e1 : folI (some b) = (b : Int) := rfl
    rw [e1]
    have hbn : ¬ ((b : Int) < 0) := by omega
    go_wp2_with fail
    go_ret
    exact ⟨ret_int (by rw [HV.out]), HB1.out⟩
end Go.Proofs.Ytjpjikfmdaejeaa
/-
  AN OPERAND OF A CELL OF A GRAPH THAT IS BEING BUILT, OVERWRITTEN.
-/
namespace Go.Proofs.Ytjpjikfmdaejeaa
set_option linter.unusedVariables false
set_option linter.unusedSimpArgs false
open Go.RowKit

/-- a cell with one operand overwritten -/
def setKid (g : List Ce) (i q : Nat) (y : Int) : List Ce := g.modify i fun c => ⟨c.op, c.num, c.kids.set q y⟩
theorem setKid_len (g : List Ce) (i q : Nat) (y : Int) : (setKid g i q y).length = g.length := by simp [setKid]
theorem setKid_at (g : List Ce) (i q : Nat) (y : Int) (j : Nat) (hj : j < g.length) : (setKid g i q y)[j]'(by rw [setKid_len]; exact hj) = if i = j then ⟨g[j].op, g[j].num, g[j].kids.set q y⟩ else g[j] := by
  unfold setKid; rw [List.getElem_modify]
theorem setKid_op (g : List Ce) (i q : Nat) (y : Int) (j : Nat) (hj : j < g.length) : ((setKid g i q y)[j]'(by rw [setKid_len]; exact hj)).op = g[j].op ∧ ((setKid g i q y)[j]'(by rw [setKid_len]; exact hj)).num = g[j].num ∧ ((setKid g i q y)[j]'(by rw [setKid_len]; exact hj)).kids.length = g[j].kids.length := by
  rw [setKid_at g i q y j hj]; split <;> simp
theorem nil_len {α : Type} {l : List α} : l = [] ↔ l.length = 0 := List.length_eq_zero_iff.symm
/-- where an operand lies -/
theorem OwnC.kidAt {w : World} {lo : Nat} {S : Nat → Prop} {g : List Ce} {v : Value} (h : OwnC w lo S g v) (i : Nat) (hi : i < g.length) (q : Nat) (hq : q < g[i].kids.length) :
    ∃ b cap blk capk, v = .slice (some ⟨b, 0, none⟩) g.length cap ∧ lo ≤ b ∧ b < w.heap.size ∧ S blk ∧ blk < w.heap.size ∧ b ≠ blk ∧ g[i].kids.length ≤ capk ∧ capk ≤ maxLen ∧ w.cell? ⟨b, i * 3 + 2, none⟩ = some (.slice (some ⟨blk, 0, none⟩) g[i].kids.length capk) ∧
      w.cell? ⟨blk, q, none⟩ = some (.int .i64 g[i].kids[q]) ∧ w.frozen? ⟨blk, q, none⟩ = false ∧ ∀ y, OwnC (w.setCell ⟨blk, q, none⟩ (.int .i64 y)) lo S (setKid g i q y) v := by
  obtain ⟨hi0, xs, kb, h1, h2, h3⟩ := h
  obtain ⟨kv, e0, e1, e2, adk, capk, rfl, l1, l2, h5⟩ := h2 i hi
  rcases h5 with h5 | ⟨f, rfl, hS, hr, hf⟩
  · rw [h5] at hq; simp at hq
  obtain ⟨C, hC, -, -⟩ := id hr
  have hne : ∀ k, some k = v.ownBlock → k ≠ kb i := by
    rintro k e rfl
    rcases h1.2 with ⟨rfl, -⟩ | ⟨b, cap, cur, rfl, -, hh, -⟩
    · simp [Value.ownBlock] at e
    · simp only [Value.ownBlock, Option.some.injEq] at e
      rw [e, hh] at hC
      simp at hC
  obtain ⟨b, cap, rfl, hlo, hbl⟩ : ∃ b cap, v = .slice (some ⟨b, 0, none⟩) g.length cap ∧ lo ≤ b ∧ b < w.heap.size := by
    rcases h1.2 with ⟨rfl, h0⟩ | ⟨b, cap, cur, rfl, hg, hh, -⟩
    · omega
    · exact ⟨b, cap, rfl, hg, (Array.getElem?_eq_some_iff.1 hh).1⟩
  have hcell := h1.cellAt (i * 3 + 2) (by omega)
  have hfq := hr.cell (i := q) (by omega)
  rw [hf q hq] at hfq
  refine ⟨b, cap, kb i, capk, rfl, hlo, hbl, hS, hr.lt, hne b rfl, l1, l2, ?_, hfq, hr.frozen q, fun y => ?_⟩
  · rw [hcell]; exact e2
  have keepb : ∀ k, k ≠ kb i → (w.setCell ⟨kb i, q, none⟩ (.int .i64 y)).heap[k]? = w.heap[k]? := fun k hk => Below.heap_setCell _ _ _ _ hk
  refine ⟨fun j hj => ?_, xs, kb, ?_, fun j hj => ?_, ?_⟩
  · have hj2 : j < g.length := by rw [setKid_len] at hj; exact hj
    obtain ⟨a1, a2, -⟩ := setKid_op g i q y j hj2
    rw [a1, a2]; exact hi0 j hj2
  · rw [setKid_len]
    refine ⟨h1.1, ?_⟩
    rcases h1.2 with h | ⟨b2, cap2, cur, e, hg, hh, r⟩
    · exact Or.inl h
    · exact Or.inr ⟨b2, cap2, cur, e, hg, (keepb b2 (hne b2 (by rw [e]; rfl))).trans hh, r⟩
  · have hj2 : j < g.length := by rw [setKid_len] at hj; exact hj
    obtain ⟨a1, a2, a3⟩ := setKid_op g i q y j hj2
    obtain ⟨kv2, f0, f1, f2, f3⟩ := h2 j hj2
    refine ⟨kv2, by rw [a1]; exact f0, by rw [a2]; exact f1, f2, ?_⟩
    obtain ⟨ad2, cap2, rfl, m1, m2, f5⟩ := f3
    refine ⟨ad2, cap2, by rw [a3], by rw [a3]; exact m1, m2, ?_⟩
    rcases f5 with f5 | ⟨f', rfl, hS', hr', hf'⟩
    · exact Or.inl (nil_len.2 (by rw [a3, f5]; rfl))
    · by_cases hji : j = i
      · subst hji
        have hc2 : cap2 = capk := by
          rw [e2] at f2
          simp only [Option.some.injEq, Value.slice.injEq] at f2
          exact f2.2.2.symm
        subst hc2
        refine Or.inr ⟨fun x => if x = q then .int .i64 y else f x, rfl, hS, hr.set q _, fun x hx => ?_⟩
        rw [a3] at hx
        simp only [setKid_at g j q y j hj2, if_pos, List.getElem_set]
        by_cases e : x = q
        · rw [if_pos e, if_pos e.symm]
        · rw [if_neg e, if_neg (fun h => e h.symm)]; exact hf x hx
      · have hkk : g[j].kids = [] ∨ kb j ≠ kb i := by
          by_cases hn : g[j].kids = []
          · exact Or.inl hn
          · exact Or.inr (h3 j i hj2 hi hji hn (fun e => by rw [e] at hq; simp at hq))
        rcases hkk with hkk | hkk
        · exact Or.inl (nil_len.2 (by rw [a3, hkk]; rfl))
        · refine Or.inr ⟨f', rfl, hS', hr'.of_block (keepb _ hkk), fun x hx => ?_⟩
          simp only [setKid_at g i q y j hj2, if_neg (fun e : i = j => hji e.symm)] at hx ⊢
          exact hf' x hx
  · intro a b ha hb hab ea eb
    rw [setKid_len] at ha hb
    refine h3 a b ha hb hab (fun e => ea (nil_len.2 ?_)) (fun e => eb (nil_len.2 ?_))
    · rw [(setKid_op g i q y a ha).2.2, e]; rfl
    · rw [(setKid_op g i q y b hb).2.2, e]; rfl
end Go.Proofs.Ytjpjikfmdaejeaa
/-
  PLAIN: operands replaced one by one by the cells for which they stand. No program is named here.
-/
namespace Go.Proofs.Ytjpjikfmdaejeaa
set_option linter.unusedVariables false
set_option linter.unusedSimpArgs false

/-- the operands of the cells before i, and the first k of cell i, are replaced -/
def shortP (g : List Ce) (i k : Nat) : List Ce := g.mapIdx fun j c => ⟨c.op, c.num, c.kids.mapIdx fun q x => if j < i ∨ (j = i ∧ q < k) then (skipN g x.toNat : Int) else x⟩
theorem shortP_len (g : List Ce) (i k : Nat) : (shortP g i k).length = g.length := by simp [shortP]
theorem shortP_at (g : List Ce) (i k j : Nat) (hj : j < g.length) : (shortP g i k)[j]'(by rw [shortP_len]; exact hj) = ⟨g[j].op, g[j].num, g[j].kids.mapIdx fun q x => if j < i ∨ (j = i ∧ q < k) then (skipN g x.toNat : Int) else x⟩ := by simp [shortP]
theorem ce_ext {a b : Ce} (h1 : a.op = b.op) (h2 : a.num = b.num) (h3 : a.kids = b.kids) : a = b := by cases a; cases b; simp_all
theorem shortP_zero (g : List Ce) : shortP g 0 0 = g := by
  refine List.ext_getElem (shortP_len g 0 0) fun j h1 h2 => ?_
  rw [shortP_at g 0 0 j h2]
  refine ce_ext rfl rfl (List.ext_getElem (by simp) fun q h3 h4 => ?_)
  simp only [List.getElem_mapIdx]
  rw [if_neg (by omega)]
theorem shortP_end (g : List Ce) : shortP g g.length 0 = shortG g := by
  refine List.ext_getElem (by rw [shortP_len, shortG_len]) fun j h1 h2 => ?_
  rw [shortG_len] at h2
  rw [shortP_at g _ 0 j h2, shortG_at g j h2]
  unfold shortC
  refine ce_ext rfl rfl (List.ext_getElem (by simp) fun q h3 h4 => ?_)
  simp only [List.getElem_mapIdx, List.getElem_map]
  rw [if_pos (Or.inl h2)]
theorem shortP_next (g : List Ce) (i k : Nat) (hi : i < g.length) (hk : g[i].kids.length ≤ k) : shortP g i k = shortP g (i + 1) 0 := by
  refine List.ext_getElem (by rw [shortP_len, shortP_len]) fun j h1 h2 => ?_
  rw [shortP_len] at h2
  rw [shortP_at g i k j h2, shortP_at g (i + 1) 0 j h2]
  refine ce_ext rfl rfl (List.ext_getElem (by simp) fun q h3 h4 => ?_)
  simp only [List.getElem_mapIdx]
  simp only [List.length_mapIdx] at h3
  have e : (j < i ∨ (j = i ∧ q < k)) ↔ (j < i + 1 ∨ (j = i + 1 ∧ q < 0)) := by
    by_cases hji : j = i
    · subst hji; constructor <;> intro _ <;> omega
    · omega
  by_cases h : j < i ∨ (j = i ∧ q < k)
  · rw [if_pos h, if_pos (e.1 h)]
  · rw [if_neg h, if_neg (fun h2 => h (e.2 h2))]
theorem shortP_kid (g : List Ce) (i k : Nat) (hi : i < g.length) (hk : k < g[i].kids.length) : ((shortP g i k)[i]'(by rw [shortP_len]; exact hi)).kids.length = g[i].kids.length ∧ ∀ h, ((shortP g i k)[i]'(by rw [shortP_len]; exact hi)).kids[k]'h = g[i].kids[k] := by
  refine ⟨by rw [shortP_at g i k i hi]; simp, fun h => ?_⟩
  simp only [shortP_at g i k i hi, List.getElem_mapIdx]
  rw [if_neg (by omega)]
theorem shortP_klen (g : List Ce) (i k : Nat) (hi : i < g.length) : ((shortP g i k)[i]'(by rw [shortP_len]; exact hi)).kids.length = g[i].kids.length := by rw [shortP_at g i k i hi]; simp
theorem shortP_step (g : List Ce) (i k : Nat) (hi : i < g.length) (hk : k < g[i].kids.length) : setKid (shortP g i k) i k (skipN g (g[i].kids[k]).toNat : Int) = shortP g i (k + 1) := by
  refine List.ext_getElem (by rw [setKid_len, shortP_len, shortP_len]) fun j h1 h2 => ?_
  rw [shortP_len] at h2
  rw [setKid_at _ _ _ _ j (by rw [shortP_len]; exact h2), shortP_at g i (k + 1) j h2, shortP_at g i k j h2]
  split
  · rename_i e
    subst e
    refine ce_ext rfl rfl (List.ext_getElem (by simp) fun q h3 h4 => ?_)
    simp only [List.getElem_set, List.getElem_mapIdx]
    by_cases hq : k = q
    · subst hq
      rw [if_pos rfl]
      exact (if_pos (Or.inr ⟨trivial, Nat.lt_succ_self _⟩)).symm
    · rw [if_neg hq]
      by_cases h : q < k
      · rw [if_pos (Or.inr ⟨trivial, h⟩)]
        exact (if_pos (Or.inr ⟨trivial, Nat.lt_succ_of_lt h⟩)).symm
      · have h1 : ¬ (i < i ∨ (True ∧ q < k)) := by simp; omega
        have h2 : ¬ (i < i ∨ (True ∧ q < k + 1)) := by simp; omega
        rw [if_neg h1]
        exact (if_neg h2).symm
  · rename_i e
    refine ce_ext rfl rfl (List.ext_getElem (by simp) fun q h3 h4 => ?_)
    simp only [List.getElem_mapIdx]
    by_cases h : j < i
    · rw [if_pos (Or.inl h)]
      exact (if_pos (Or.inl h)).symm
    · have h1 : ¬ (j < i ∨ (j = i ∧ q < k)) := by omega
      have h2 : ¬ (j < i ∨ (j = i ∧ q < k + 1)) := by omega
      rw [if_neg h1]
      exact (if_neg h2).symm
end Go.Proofs.Ytjpjikfmdaejeaa
/-
  THE MODEL's l5Short: operands past indirections, in place on a copy.
-/
namespace Go.Proofs.Ytjpjikfmdaejeaa
set_option linter.unusedVariables false
set_option linter.unusedSimpArgs false
open Go.RowKit

theorem set_congr {w W : World} {j : Nat} (h : W.heap[j]? = w.heap[j]?) (a : Addr) (v : Value) : (W.setCell a v).heap[j]? = (w.setCell a v).heap[j]? := by
  simp only [World.setCell, Array.getElem?_modify, h]
theorem CellsOn.at' {w : World} {g : List Ce} {v : Value} (h : CIn w g v) (i : Nat) (hi : i < g.length) :
    ∃ bl off c, v = .slice (some ⟨bl, off, none⟩) g.length (match v with | .slice _ _ c => c | _ => 0) ∧ w.cell? ⟨bl, off + i * 3, none⟩ = some (.int .i64 g[i].op) ∧ w.cell? ⟨bl, off + i * 3 + 1, none⟩ = some (.int .i64 g[i].num) ∧ w.cell? ⟨bl, off + i * 3 + 2, none⟩ = some c ∧ I64 g[i].op ∧ I64 g[i].num ∧ IIn w g[i].kids c := by
  obtain ⟨ad, cap, rfl, l1, l2, h5⟩ := id h
  obtain ⟨bl, off, c, rfl, r⟩ := CellsOn.at h i hi
  exact ⟨bl, off, c, rfl, r⟩

set_option maxRecDepth 100000 in
set_option maxHeartbeats 3200000 in
theorem l5Short_calls (g : List Ce) (v : Value) (w : World) (hk : CIn w g v) (hg : graphB g 6 = true) : Calls Try.prog 47 #[v] w (CopyRes (shortG g) w) := by
  have HK : Hid (CIn w g v) := hk
  have HG := mkHid hg
  have h400 : g.length ≤ 400 := graphB_len hg
  obtain ⟨ad, cap, rfl, hl, hm, -⟩ := hk
  unfold maxLen at hm
  clear hg
  go_enter Try.func47, Try.ntmps47
  go_wp2_with fail
  refine (l3Copy_calls g _ _ HK.out ⟨6, HG.out⟩).mono ?_
  rintro e w1 ⟨gv, rfl, ho, hb1⟩
  have HB1 : Hid (Below w.heap.size w w1) := hb1
  have HO0 : Hid (OwnC w1 w.heap.size (fun b => w.heap.size ≤ b) (shortP g 0 0) gv) := by rw [Hid, shortP_zero]; exact ho
  obtain ⟨adg, capg, rfl⟩ := ho.form
  clear ho hb1
  go_wp2_with fail
  go_loopw [4] (fun z wr => ∃ i : Nat, i ≤ g.length ∧ z = .int .i64 i ∧ OwnC wr w.heap.size (fun b => w.heap.size ≤ b) (shortP g i 0) (.slice adg g.length capg) ∧ Below w.heap.size w wr) (fun z _ => g.length - (intOf z).toNat)
  case atStart => exact ⟨0, Nat.zero_le _, rfl, HO0.out, HB1.out⟩
  case round =>
    obtain ⟨i, hi, rfl, ho, hb⟩ := hrel
    obtain ⟨wo, rfl⟩ : ∃ wo : World, wo = wr := ⟨_, rfl⟩
    have HO := mkHid ho
    have HB : Hid (Below w.heap.size w wo) := hb
    by_cases hlt : i < g.length
    · clear ho hb
      go_wp2_with fail
      go_loopw [5] (fun z wr => ∃ k : Nat, k ≤ g[i].kids.length ∧ z = .int .i64 k ∧ OwnC wr w.heap.size (fun b => w.heap.size ≤ b) (shortP g i k) (.slice adg g.length capg) ∧ Below w.heap.size w wr) (fun z _ => g[i].kids.length - (intOf z).toNat)
      case atStart => exact ⟨0, Nat.zero_le _, rfl, HO.out, HB.out⟩
      case round =>
        obtain ⟨k, hk, rfl, ho, hb⟩ := hrel
        have HO2 := mkHid ho
        have HB2 : Hid (Below w.heap.size w wr) := hb
        have hiS : i < (shortP g i k).length := by rw [shortP_len]; exact hlt
        by_cases hltk : k < g[i].kids.length
        · obtain ⟨hkl1, hkl2⟩ := shortP_kid g i k hlt hltk
          obtain ⟨b, cap', blk, capk, e, hlb, hbz, hSb, hbkz, hne, hkc, hkm, c2, dk, fk, hset⟩ := ho.kidAt i hiS k (by rw [hkl1]; exact hltk)
          rw [hkl1] at c2 hkc
          rw [hkl2] at dk
          simp only [Value.slice.injEq] at e
          obtain ⟨rfl, -, -⟩ := e
          obtain ⟨hke, hkx⟩ := kidAt_get HG.out i hlt k hltk
          have HSTEP := mkHid (shortP_step g i k hlt hltk)
          obtain ⟨x, hx⟩ : ∃ x, x = kidAt g i k := ⟨_, rfl⟩
          rw [hke, ← hx] at dk HSTEP
          rw [← hx] at hkx
          have HSET : Hid (∀ W, Below wr.heap.size wr W → OwnC (W.setCell ⟨blk, k, none⟩ (.int .i64 (skipN g x : Int))) w.heap.size (fun b => w.heap.size ≤ b) (shortP g i (k + 1)) (.slice (some ⟨b, 0, none⟩) g.length capg) ∧ Below w.heap.size w (W.setCell ⟨blk, k, none⟩ (.int .i64 (skipN g x : Int)))) := fun W hW => by
            have h := hset (skipN g x : Int)
            have e : setKid (shortP g i k) i k (skipN g x : Int) = shortP g i (k + 1) := by have h := HSTEP.out; rw [Int.toNat_natCast] at h; exact h
            rw [e] at h
            exact ⟨h.next (fun _ h _ => h) (fun j _ hz => set_congr (hW.block j (by rw [size_setCell] at hz; exact hz)) _ _) (fun j _ hz => set_congr (hW.block j (by rw [size_setCell] at hz; exact hz)) _ _), (HB2.out.trans (hW.mono HB2.out.size)).setCell hSb _⟩
          have HNE : Hid (∀ W : World, W.cell? ⟨b, i * 3 + 2, none⟩ = some (.slice (some ⟨blk, 0, none⟩) g[i].kids.length capk) → (W.setCell ⟨blk, k, none⟩ (.int .i64 (skipN g x : Int))).cell? ⟨b, i * 3 + 2, none⟩ = some (.slice (some ⟨blk, 0, none⟩) g[i].kids.length capk)) := fun W h => (World.cell?_of_block (Below.heap_setCell _ _ _ _ hne)).trans h
          have hkI : (k : Int) < (g[i].kids.length : Int) := by omega
          have hiI : (i : Int) < (g.length : Int) := by omega
          have c2d : wr.drew.cell? ⟨b, i * 3 + 2, none⟩ = some (.slice (some ⟨blk, 0, none⟩) g[i].kids.length capk) := c2
          have dkd : wr.drew.cell? ⟨blk, k, none⟩ = some (.int .i64 (x : Int)) := dk
          unfold maxLen at hkm
          clear ho hb hset hx hke hkl1 hkl2 hne hlb hSb
          go_wp2_with fail
          go_region_with (first
              | (go_at_call 46; refine (l5Skip_calls g x _ _ ((HK.out.next HB2.out).drew) HG.out hkx).mono ?_; rintro e w5 ⟨rfl, hb5⟩; have HB5 : Hid (Below wr.heap.size wr w5) := ((Below.refl _ _).drew).trans hb5; have n2 := (HB5.out.cell (p := ⟨b, i * 3 + 2, none⟩) hbz).trans c2; have n3 := (HB5.out.cell (p := ⟨blk, k, none⟩) hbkz).trans dk; have nf := (HB5.out.frozen (p := ⟨blk, k, none⟩) hbkz).trans fk; clear hb5))
          all_goals
            have HFIN := mkHid (HSET.out w5 HB5.out)
            clear n2 n3 nf
            go_wp2_with fail
            go_roundw
            case rel => exact ⟨k + 1, by omega, by go_num, HFIN.out.1, HFIN.out.2⟩
            case measure => simp [intOf]; omega
        · have hke : k = g[i].kids.length := by omega
          have HN : Hid (OwnC wr w.heap.size (fun b => w.heap.size ≤ b) (shortP g (i + 1) 0) (.slice adg g.length capg)) := by
            rw [← shortP_next g i k hlt (by omega)]; exact ho
          obtain ⟨bl, off, r2, e, -, -, c2, -, -, hkk⟩ := ((ho.own fun k h _ => h).inn).at' i hiS
          obtain ⟨adk, capk, rfl, -, -, -⟩ := id hkk
          rw [shortP_klen g i k hlt] at c2
          simp only [Value.slice.injEq] at e
          obtain ⟨rfl, -, -⟩ := e
          clear ho hb hkk
          go_wp2_with fail
          go_roundw
          case rel => exact ⟨i + 1, by omega, by go_num, HN.out, HB2.out⟩
          case measure => simp [intOf]; omega
    · have hie : i = g.length := by omega
      have HE : Hid (OwnC wo w.heap.size (fun b => w.heap.size ≤ b) (shortG g) (.slice adg g.length capg)) := by
        have h := HO.out
        rw [hie, shortP_end] at h; exact h
      clear ho hb hie
      go_wp2_with fail
      go_ret
      exact ⟨_, rfl, HE.out, HB.out⟩
end Go.Proofs.Ytjpjikfmdaejeaa
/-
  THE MODEL's l5Collect AND CollectGraph.
-/
namespace Go.Proofs.Ytjpjikfmdaejeaa
set_option linter.unusedVariables false
set_option linter.unusedSimpArgs false
open Go.RowKit

set_option maxRecDepth 100000 in
set_option maxHeartbeats 1600000 in
theorem l5Collect_calls (g : List Ce) (rs : List Nat) (v rv : Value) (w : World) (hk : CIn w g v) (hr : IIn w (plI rs) rv) (hg : graphB g 6 = true) (hlt : ∀ x ∈ rs, x < g.length) (h20 : rs.length ≤ 20) :
    Calls Try.prog 35 #[v, rv] w (NewGI (copyG (shortG g) (rs.map (skipN g))) (topsG (shortG g) (rs.map (skipN g))) w) := by
  have HK : Hid (CIn w g v) := hk
  have HR : Hid (IIn w (plI rs) rv) := hr
  have HG := mkHid hg
  have HLT := mkHid hlt
  have H20 := mkHid h20
  obtain ⟨ad, cap, rfl, -, -, -⟩ := hk
  obtain ⟨adr, capr, rfl, hlr, hmr⟩ := pl_form hr
  unfold maxLen at hmr
  have HS0 : Hid (Stk (w.alloc (.cells #[] 3)) w.heap.size ((rs.take 0).map (skipN g)) (.slice (some ⟨w.heap.size, 0, none⟩) 0 0)) := stk_zero (Deep.blk_alloc_new w _) (Nat.le_refl _)
  clear hr hg hlt
  go_enter Try.func35, Try.ntmps35
  go_wp2_with fail
  go_loopw [6, 7] (fun top z wr => ∃ k : Nat, k ≤ rs.length ∧ z = .int .i64 k ∧ Stk wr w.heap.size ((rs.take k).map (skipN g)) top ∧ Below w.heap.size w wr) (fun _ z _ => rs.length - (intOf z).toNat)
  case atStart => exact ⟨0, Nat.zero_le _, rfl, HS0.out, box_below _ _⟩
  case round =>
    obtain ⟨k, hk, rfl, hst, hb⟩ := hrel
    have HS := mkHid hst
    have HB : Hid (Below w.heap.size w wr) := hb
    have hsw := hb.size
    have hjl : ((rs.take k).map (skipN g)).length = k := by rw [List.length_map, List.length_take]; omega
    have HJL := mkHid hjl
    obtain ⟨adp, capp, rfl⟩ : ∃ ad cap, u6 = .slice ad k cap := by obtain ⟨x, y, e⟩ := hst.len; rw [hjl] at e; exact ⟨x, y, e⟩
    clear hst hjl
    by_cases hlt : k < rs.length
    · obtain ⟨bl, off, x, rfl, hbl, hx, hxm, d0w⟩ := pl_at HR.out k hlt
      have d0 := (hb.cell (p := ⟨bl, off + k, none⟩) hbl).trans d0w
      have hxl := HLT.out x hxm
      have HX := mkHid hx
      clear hb hx hxm d0w
      go_wp2_with fail
      refine (l5Skip_calls g x _ _ (HK.out.next HB.out) HG.out hxl).mono ?_
      rintro e w1 ⟨rfl, hb1⟩
      have HB1 : Hid (Below w.heap.size w w1) := HB.out.trans (hb1.mono HB.out.size)
      have HS1 : Hid (Stk w1 w.heap.size ((rs.take k).map (skipN g)) (.slice adp k capp)) := HS.out.next hb1
      have hzw := HB1.out.size
      obtain ⟨m, hm⟩ : ∃ m, m = skipN g x := ⟨_, rfl⟩
      have HM := mkHid hm
      rw [← hm]
      have HS3 : Hid (Stk (w1.alloc (.cells #[.int .i64 (m : Int)] 3)) w.heap.size ((rs.take k).map (skipN g)) (.slice adp k capp)) := HS1.out.alloc _
      have HK3 : Hid (IIn (w1.alloc (.cells #[.int .i64 (m : Int)] 3)) [(m : Int)] (.slice (some ⟨w1.heap.size, 0, none⟩) 1 1)) := one_in w1 m
      have HLO : Hid (w.heap.size ≤ (w1.alloc (.cells #[.int .i64 (m : Int)] 3)).heap.size) := by rw [Hid, Deep.nblk_alloc]; omega
      clear hb1 d0 hm
      go_wp2_with (at_builtin; go_must (refine wpList_push rfl _ _ rfl _ w.heap.size ((rs.take k).map (skipN g)) [m] (.slice adp k capp) (.slice (some ⟨w1.heap.size, 0, none⟩) 1 1) rfl HS3.out rfl HK3.out rfl HLO.out (by rw [HJL.out]; simp; have := H20.out; omega) ?_); go_must (intro v' w5 hst5 hg5); go_must (have HS5 := mkHid hst5); go_must (have HB5 : Hid (Below w.heap.size w w5) := push_below HS3.out (HB1.out.alloc hzw _) (Nat.le_refl _) hg5 (Nat.le_refl _)); clear hst5 hg5)
      have HS6 : Hid (Stk w5 w.heap.size ((rs.take (k + 1)).map (skipN g)) v') := by
        rw [Hid, take_snoc HX.out, List.map_append, List.map_singleton, ← HM.out]; exact HS5.out
      go_roundw
      case rel => first | exact ⟨k + 1, by omega, by go_num, HS6.out, HB5.out⟩ | ((repeat apply Exists.intro); exact ⟨⟨k + 1, by omega, by go_num, HS6.out, HB5.out⟩, rfl⟩)
      case measure => simp [intOf]; omega
    · have hke : k = rs.length := by omega
      have HV : Hid (IIn wr (plI (rs.map (skipN g))) (.slice adp k capp)) := by
        have h := HS.out
        rw [hke, List.take_length] at h
        rw [hke]; exact h.pin
      clear hb hke
      go_wp2_with fail
      refine (l5Short_calls g _ _ (HK.out.next HB.out) HG.out).mono ?_
      rintro e w1 ⟨gv, rfl, ho, hb1⟩
      have HB1 : Hid (Below w.heap.size w w1) := HB.out.trans (hb1.mono HB.out.size)
      have HV1 := mkHid (HV.out.next hb1)
      have HO := mkHid (ho.cin fun k h _ => h)
      clear ho hb1
      go_wp2_with fail
      refine (l5Copy_calls (shortG g) (rs.map (skipN g)) _ _ _ HO.out HV1.out (shortG_valid HG.out) (fun x hx => ?_) (by rw [List.length_map]; exact H20.out)).mono ?_
      · simp only [List.mem_map] at hx
        obtain ⟨a, ha, rfl⟩ := hx
        rw [shortG_len]
        exact skip_lt HG.out (HLT.out a ha)
      rintro e w2 ⟨gv2, tv2, rfl, ho, hs, hb2⟩
      have HB2 : Hid (Below w.heap.size w w2) := HB1.out.trans (hb2.mono HB1.out.size)
      have HO2 := mkHid (ho.lower HB1.out.size (S' := fun b => w.heap.size ≤ b) fun b hb => Nat.le_trans HB1.out.size hb)
      have HS2 := mkHid (hs.lower HB1.out.size)
      clear ho hs hb2
      go_wp2_with fail
      go_ret2
      exact ⟨_, _, rfl, HO2.out, HS2.out, HB2.out⟩

set_option maxHeartbeats 800000 in
theorem specColl_calls (g : List Ce) (rs : List Int) (v rv : Value) (w : World) (hk : CIn w g v) (hr : IIn w rs rv) :
    Calls Try.prog 21 #[v, rv] w (GotGI (collO g rs) (rootB g rs) w) := by
  have HK : Hid (CIn w g v) := hk
  have HR : Hid (IIn w rs rv) := hr
  clear hk hr
  go_enter Try.func21, Try.ntmps21
  go_wp2_with fail
  refine (l5Right_calls g rs _ _ _ HK.out HR.out).mono ?_
  rintro e w1 ⟨rfl, hb1⟩
  have HB1 : Hid (Below w.heap.size w w1) := hb1
  clear hb1
  cases hg : rootB g rs with
  | false =>
    have HV := mkHid (collO_no hg)
    have HT := mkHid hg
    clear hg
    go_wp2_with fail
    go_ret3
    rw [HV.out, HT.out]
    exact ⟨_, _, rfl, cin_nil _ _ 0 (by simp [maxLen]), iin_nil _ _ 0 (by simp [maxLen]), (HB1.out.alloc HB1.out.size _).alloc (by rw [Deep.nblk_alloc]; have := HB1.out.size; omega) _⟩
  | true =>
    have HT := mkHid hg
    have HV := mkHid (collO_yes hg)
    have HR2 : Hid (IIn w1 (plI (natL rs)) rv) := by
      have h := HR.out.next HB1.out
      rw [root_back hg] at h
      exact h
    clear hg
    go_wp2_with fail
    refine (l5Collect_calls g (natL rs) _ _ _ (HK.out.next HB1.out) HR2.out (rootB_iff.1 HT.out).1 (root_lt HT.out) (by rw [natL_len]; exact (rootB_iff.1 HT.out).2.1)).mono ?_
    rintro e w2 ⟨gv, tv, rfl, ho, hs, hb2⟩
    have HO := mkHid (ho.cin fun k h _ => h)
    have HS := mkHid hs.pin
    have HB2 : Hid (Below w.heap.size w w2) := HB1.out.trans (hb2.mono HB1.out.size)
    clear ho hs hb2
    go_wp2_with fail
    go_ret3
    rw [HV.out, HT.out]
    exact ⟨_, _, rfl, HO.out, HS.out, HB2.out⟩
end Go.Proofs.Ytjpjikfmdaejeaa
/-
  A CELL OF A GRAPH THAT IS BEING BUILT, OVERWRITTEN.
-/
namespace Go.Proofs.Ytjpjikfmdaejeaa
set_option linter.unusedVariables false
set_option linter.unusedSimpArgs false
open Go.RowKit

/-- the world behind the three stores of a cell -/
def st3 (w : World) (b i : Nat) (o m : Int) (kv : Value) : World := ((w.setCell ⟨b, i * 3, none⟩ (.int .i64 o)).setCell ⟨b, i * 3 + 1, none⟩ (.int .i64 m)).setCell ⟨b, i * 3 + 2, none⟩ kv
theorem st3_block {w : World} {b i : Nat} {o m : Int} {kv : Value} {k : Nat} (h : k ≠ b) : (st3 w b i o m kv).heap[k]? = w.heap[k]? := by
  unfold st3
  rw [Below.heap_setCell _ _ _ _ (by exact h), Below.heap_setCell _ _ _ _ (by exact h), Below.heap_setCell _ _ _ _ (by exact h)]
theorem st3_size {w : World} {b i : Nat} {o m : Int} {kv : Value} : (st3 w b i o m kv).heap.size = w.heap.size := by
  unfold st3; rw [size_setCell, size_setCell, size_setCell]
theorem st3_below {w0 w : World} {B b i : Nat} {o m : Int} {kv : Value} (h : Below B w0 w) (hb : B ≤ b) : Below B w0 (st3 w b i o m kv) := ((h.setCell hb _).setCell hb _).setCell hb _
theorem OwnC.setc {w : World} {lo : Nat} {S : Nat → Prop} {g : List Ce} {b cap : Nat} {c : Ce} {kv : Value} {blk : Nat} (h : OwnC w lo S g (.slice (some ⟨b, 0, none⟩) g.length cap)) (i : Nat) (hi : i < g.length)
    (hc : I64 c.op ∧ I64 c.num) (hk : KRowS w (fun x => x = blk) c.kids blk kv) (hS : ¬ S blk) :
    OwnC (st3 w b i c.op c.num kv) lo (fun x => S x ∨ x = blk) (g.set i c) (.slice (some ⟨b, 0, none⟩) g.length cap) := by
  obtain ⟨hi0, xs, kb, h1, h2, h3⟩ := h
  have hx1 := (h1.stored (i * 3) (.int .i64 c.op)).1
  have hx2 := (hx1.stored (i * 3 + 1) (.int .i64 c.num)).1
  have hx3 := (hx2.stored (i * 3 + 2) kv).1
  have hlen := h1.1
  have hbC : ∃ C, w.heap[b]? = some (.cells C 45 (0, 0)) := by
    rcases h1.2 with ⟨e, -⟩ | ⟨b2, cap2, cur2, e, -, hh, -⟩
    · cases e
    · cases e; exact ⟨cur2, hh⟩
  have keep : ∀ (C : Array Value) (k : Nat), k < w.heap.size → w.heap[k]? = some (.cells C 3 (0, 0)) → (st3 w b i c.op c.num kv).heap[k]? = w.heap[k]? := by
    intro C k _ hC
    refine st3_block fun e => ?_
    subst e
    obtain ⟨C2, hC2⟩ := hbC
    rw [hC] at hC2
    simp at hC2
  have ne : ∀ j (hj : j < g.length), g[j].kids ≠ [] → kb j ≠ blk := by
    intro j hj hne e
    obtain ⟨kv', -, -, -, _, _, _, _, _, h5⟩ := h2 j hj
    rcases h5 with h5 | ⟨f5, -, h6, -⟩
    · exact hne h5
    · exact hS (e ▸ h6)
  refine ⟨fun j hj => ?_, ((xs.set (i * 3) (.int .i64 c.op)).set (i * 3 + 1) (.int .i64 c.num)).set (i * 3 + 2) kv, fun j => if j = i then blk else kb j, ?_, fun j hj => ?_, ?_⟩
  · rw [List.length_set] at hj
    rw [List.getElem_set]
    split
    · exact hc
    · exact hi0 j hj
  · rw [List.length_set]; exact hx3
  · rw [List.length_set] at hj
    by_cases hji : j = i
    · subst hji
      refine ⟨kv, ?_, ?_, ?_, ?_⟩
      · rw [List.getElem_set_self, List.getElem?_set_ne (by omega), List.getElem?_set_ne (by omega), List.getElem?_set_self (by omega)]
      · rw [List.getElem_set_self, List.getElem?_set_ne (by omega), List.getElem?_set_self (by rw [List.length_set]; omega)]
      · rw [List.getElem?_set_self (by rw [List.length_set, List.length_set]; omega)]
      · simp only [if_pos, List.getElem_set_self]
        exact hk.keep (fun k hk _ => Or.inr hk) fun C _ h5 hC => keep C _ h5 hC
    · obtain ⟨kv', e0, e1, e2, e3⟩ := h2 j hj
      have hne : g[j] = (g.set i c)[j]'(by rw [List.length_set]; exact hj) := by rw [List.getElem_set_ne (by omega)]
      refine ⟨kv', ?_, ?_, ?_, ?_⟩
      · rw [← hne, List.getElem?_set_ne (by omega), List.getElem?_set_ne (by omega), List.getElem?_set_ne (by omega)]; exact e0
      · rw [← hne, List.getElem?_set_ne (by omega), List.getElem?_set_ne (by omega), List.getElem?_set_ne (by omega)]; exact e1
      · rw [List.getElem?_set_ne (by omega), List.getElem?_set_ne (by omega), List.getElem?_set_ne (by omega)]; exact e2
      · simp only [if_neg hji]
        rw [← hne]
        exact e3.keep (fun k hk _ => Or.inl hk) fun C _ h5 hC => keep C _ h5 hC
  · intro i1 j1 hi1 hj1 hij ei ej
    rw [List.length_set] at hi1 hj1
    by_cases hii : i1 = i
    · have hji : ¬ j1 = i := by omega
      simp only [if_pos hii, if_neg hji]
      rw [List.getElem_set_ne (by omega)] at ej
      exact (ne j1 hj1 ej).symm
    · rw [List.getElem_set_ne (by omega)] at ei
      by_cases hji : j1 = i
      · simp only [if_neg hii, if_pos hji]
        exact ne i1 hi1 ei
      · rw [List.getElem_set_ne (by omega)] at ej
        simp only [if_neg hii, if_neg hji]
        exact h3 i1 j1 hi1 hj1 hij ei ej
/-- the row of one operand in a new block -/
theorem krow_one (w : World) (k : Nat) : KRowS (w.alloc (.cells #[.int .i64 (k : Int)] 3)) (fun x => x = w.heap.size) [(k : Int)] w.heap.size (.slice (some ⟨w.heap.size, 0, none⟩) 1 1) :=
  ⟨_, 1, rfl, Nat.le_refl _, by simp [maxLen], Or.inr ⟨fun _ => .int .i64 (k : Int), rfl, rfl, ⟨#[.int .i64 (k : Int)], Deep.blk_alloc_new _ _, rfl, fun i hi => by
    obtain rfl : i = 0 := by omega
    rfl⟩, fun i hi => by
    obtain rfl : i = 0 := by simp at hi; omega
    rfl⟩⟩
theorem krow_nil (w : World) (S : Nat → Prop) (blk : Nat) : KRowS w S [] blk (.slice none 0 0) := ⟨_, 0, rfl, Nat.le_refl _, by simp [maxLen], Or.inl rfl⟩
end Go.Proofs.Ytjpjikfmdaejeaa
/-
  THE LAWS' OWN COUNT OF AN ARGUMENT (szExpr, szExprS): what is left of the budget; nothing that was there is changed.
-/
namespace Go.Proofs.Ytjpjikfmdaejeaa
set_option linter.unusedVariables false
set_option linter.unusedSimpArgs false
open Go.RowKit

theorem szOut_range (ks : List Tr) (left : Int) (h : 0 ≤ left) : -1 ≤ szOut ks left ∧ szOut ks left ≤ left := by
  unfold szOut; split <;> omega

/-- the budget behind the first i elements -/
def szAt (ks : List Tr) (left : Int) (i : Nat) : Int := left - ks.length - sumT (ks.take i)

theorem szOut_kid (ks : List Tr) (left : Int) (i : Nat) (hi : i < ks.length) (h : 0 ≤ szOut (ks[i]).kids (szAt ks left i)) : szOut (ks[i]).kids (szAt ks left i) = szAt ks left (i + 1) := by
  unfold szOut at h ⊢
  split at h
  · rename_i h1
    rw [if_pos h1]
    unfold szAt
    rw [sumT_take_succ ks i hi, szT_eq]
    omega
  · omega

theorem szOut_neg (ks : List Tr) (left : Int) (i : Nat) (hi : i < ks.length) (h : szOut (ks[i]).kids (szAt ks left i) < 0) (h0 : 0 ≤ szAt ks left i) : szOut ks left = -1 := by
  unfold szOut at h
  split at h
  · omega
  · rename_i h1
    unfold szOut
    rw [if_neg]
    have := sumT_take_succ ks i hi
    have := sumT_take_le ks (i + 1)
    rw [szL_sum]
    rw [szT_eq] at *
    unfold szAt at h1
    omega

theorem szOut_end (ks : List Tr) (left : Int) (h0 : 0 ≤ szAt ks left ks.length) : szOut ks left = szAt ks left ks.length := by
  unfold szAt at h0 ⊢
  unfold szOut
  rw [List.take_length] at *
  rw [szL_sum, if_pos (by omega)]
  omega

end Go.Proofs.Ytjpjikfmdaejeaa
/-
  THE LAWS' OWN COPY OF AN ARGUMENT (toExpr, toExprS): the same trees, in new memory; nothing that was there is changed.
-/
namespace Go.Proofs.Ytjpjikfmdaejeaa
set_option linter.unusedVariables false
set_option linter.unusedSimpArgs false
open Go.RowKit

/-- blocks from lo on, below hi -/
def Btw (lo hi : Nat) : Nat → Prop := fun k => lo ≤ k ∧ k < hi
theorem KidsOn.btw_in {w : World} {lo : Nat} {ks : List Tr} {c : Value} (h : KidsOn w (Btw lo w.heap.size) ks c) : In w ks c :=
  h.mono (fun _ hk => hk.2) (fun _ _ => rfl)
theorem KidsOn.btw_next {w w' : World} {lo : Nat} {ks : List Tr} {c : Value} (h : KidsOn w (Btw lo w.heap.size) ks c) (hb : Below w.heap.size w w') : KidsOn w' (Btw lo w'.heap.size) ks c :=
  h.mono (fun _ hk => ⟨hk.1, Nat.lt_of_lt_of_le hk.2 hb.size⟩) (fun k hk => hb.block k hk.2)

/-- a call has handed back these trees in new memory -/
def NewKids (ks : List Tr) (w : World) (e : Ending) (w' : World) : Prop := ∃ v, e = .returned v ∧ KidsOn w' (Btw w.heap.size w'.heap.size) ks v ∧ Below w.heap.size w w'
/-- .. one tree -/
def NewTr (o n : Int) (ks : List Tr) (w : World) (e : Ending) (w' : World) : Prop := ∃ v, e = .returned (.agg #[.int .i64 o, .int .i64 n, v]) ∧ KidsOn w' (Btw w.heap.size w'.heap.size) ks v ∧ Below w.heap.size w w'

theorem infoE : (Try.prog.info? 79).map (fun i => (i.zero, i.size, i.bytes)) = some (some (.agg #[.int .i64 0, .int .i64 0, .slice none 0 0]), 3, 40) := by kernel_rfl

/-- make, of so many expressions: a new row of cells -/
theorem make_exprs (n : Nat) (h : n ≤ 1048576) : ∃ C : Array Value, C.size = n * 3 ∧ ∀ w : World, (Instr.makeSlice 77 (.int .i64 (n : Int)) (.int .i64 (n : Int))).run Try.prog w = .ok (.slice (some ⟨w.heap.size, 0, none⟩) n n) (w.alloc (.cells C 79)) := by
  obtain ⟨i, hi, hzz⟩ := Option.map_eq_some_iff.1 infoE
  simp only [Prod.mk.injEq] at hzz
  obtain ⟨hz, hs, hb⟩ := hzz
  refine ⟨madeCells (Value.agg #[.int .i64 0, .int .i64 0, .slice none 0 0]).cells (n * 3), size_madeCells _ _, fun w => ?_⟩
  have hr := run_make (P := Try.prog) w 77 79 i _ Try.underlying77 hi hz .i64 .i64 n n (by omega) (Int.le_refl _) (by rw [hb]; omega) (by omega)
  simp only [Int.toNat_natCast, hs] at hr
  exact hr

/-- what holds of the copy of a list behind k rounds -/
def ToRel (ks : List Tr) (w : World) (k : Nat) (wr : World) : Prop :=
  ∃ f : Nat → Value, wr.rowIs w.heap.size 79 (ks.length * 3) f ∧ (∀ j (_ : j < k) (hj : j < ks.length), TrOn wr (Btw (w.heap.size + 1) wr.heap.size) ks[j] (f (j * 3)) (f (j * 3 + 1)) (f (j * 3 + 2))) ∧ Below w.heap.size w wr

theorem toRel_start (ks : List Tr) (w : World) (C : Array Value) (h : C.size = ks.length * 3) : ToRel ks w 0 (w.alloc (.cells C 79)) := by
  refine ⟨fun i => C.getD i undef, ⟨C, Deep.blk_alloc_new _ _, h, fun i hi => ?_⟩, fun j hj => absurd hj (by omega), (Below.refl _ _).alloc (Nat.le_refl _) _⟩
  simp [Array.getElem?_eq_getElem (h ▸ hi : i < C.size), Array.getD, (h ▸ hi : i < C.size)]

theorem toRel_step (ks : List Tr) (w wr w1 : World) (k : Nat) (hk : k < ks.length) (h : ToRel ks w k wr) (v : Value) (hb : Below wr.heap.size wr w1) (hv : KidsOn w1 (Btw wr.heap.size w1.heap.size) (ks[k]).kids v) (ho : I64 (ks[k]).op) (hn : I64 (ks[k]).num) :
    ToRel ks w (k + 1) (((w1.setCell ⟨w.heap.size, k * 3, none⟩ (.int .i64 (ks[k]).op)).setCell ⟨w.heap.size, k * 3 + 1, none⟩ (.int .i64 (ks[k]).num)).setCell ⟨w.heap.size, k * 3 + 2, none⟩ v) := by
  obtain ⟨f, hr, ht, hbw⟩ := h
  have hlt := hr.lt
  have hr1 : w1.rowIs w.heap.size 79 (ks.length * 3) f := hr.of_block (hb.block _ hlt)
  have hsz := hb.size
  have keep : ∀ (t : Tr) (a b c : Value), TrOn w1 (Btw (w.heap.size + 1) w1.heap.size) t a b c → TrOn (((w1.setCell ⟨w.heap.size, k * 3, none⟩ (.int .i64 (ks[k]).op)).setCell ⟨w.heap.size, k * 3 + 1, none⟩ (.int .i64 (ks[k]).num)).setCell ⟨w.heap.size, k * 3 + 2, none⟩ v) (Btw (w.heap.size + 1) w1.heap.size) t a b c :=
    fun t a b c g => ((g.setCell (by simp [Btw] <;> omega) _).setCell (by simp [Btw] <;> omega) _).setCell (by simp [Btw] <;> omega) _
  have hs3 : k * 3 + 2 < ks.length * 3 := by omega
  refine ⟨_, ((hr1.set (k * 3) _).set (k * 3 + 1) _).set (k * 3 + 2) _, fun j hj hjl => ?_, ?_⟩
  · simp only [size_setCell]
    by_cases hjk : j = k
    · subst hjk
      have : TrOn w1 (Btw (w.heap.size + 1) w1.heap.size) ks[j] (.int .i64 (ks[j]).op) (.int .i64 (ks[j]).num) v := trOn_iff.2 ⟨rfl, rfl, ho, hn, hv.mono (fun k hk => ⟨by have := hk.1; omega, hk.2⟩) (fun _ _ => rfl)⟩
      simpa using keep _ _ _ _ this
    · have h0 := ht j (by omega) hjl
      have h1 : TrOn w1 (Btw (w.heap.size + 1) w1.heap.size) ks[j] (f (j * 3)) (f (j * 3 + 1)) (f (j * 3 + 2)) := h0.mono (fun k hk => ⟨hk.1, by have := hk.2; omega⟩) (fun k hk => hb.block k hk.2)
      have h2 := keep _ _ _ _ h1
      have e1 : ∀ m, m < 3 → j * 3 + m ≠ k * 3 + 2 ∧ j * 3 + m ≠ k * 3 + 1 ∧ j * 3 + m ≠ k * 3 := fun m hm => by omega
      have a0 := e1 0 (by omega)
      have a1 := e1 1 (by omega)
      have a2 := e1 2 (by omega)
      simp only [Nat.add_zero] at a0
      simpa [a0, a1, a2] using h2
  · exact (((hbw.trans (hb.mono (Nat.le_of_lt hlt))).setCell (by simp) _).setCell (by simp) _).setCell (by simp) _

theorem toRel_end (ks : List Tr) (w wr : World) (h : ToRel ks w ks.length wr) (hl : ks.length ≤ 1048576) : NewKids ks w (.returned (.slice (some ⟨w.heap.size, 0, none⟩) ks.length ks.length)) wr := by
  obtain ⟨f, hr, ht, hbw⟩ := h
  have hlt := hr.lt
  refine ⟨_, rfl, ⟨_, _, rfl, Nat.le_refl _, by unfold maxLen; omega, Or.inr ⟨_, _, rfl, ⟨Nat.le_refl _, hlt⟩, RowOn.of _ _ fun i hi => ?_⟩⟩, hbw⟩
  refine ⟨f (i * 3), f (i * 3 + 1), f (i * 3 + 2), ?_, ?_, ?_, (ht i hi hi).mono (fun k hk => ⟨by have := hk.1; omega, hk.2⟩) (fun _ _ => rfl)⟩
  · simpa using hr.cell (i := i * 3) (by omega)
  · simpa [Nat.zero_add] using hr.cell (i := i * 3 + 1) (by omega)
  · simpa [Nat.zero_add] using hr.cell (i := i * 3 + 2) (by omega)

end Go.Proofs.Ytjpjikfmdaejeaa
/-
  THE LAWS' OWN COMPARISON (eqExpr, eqExprS): of equal trees it answers true; nothing that was there is changed.
-/
namespace Go.Proofs.Ytjpjikfmdaejeaa
set_option linter.unusedVariables false
set_option linter.unusedSimpArgs false
open Go.RowKit

end Go.Proofs.Ytjpjikfmdaejeaa
/-
  PROGRAMS IN MEMORY: a slice of functions (Arity, Body), four cells each. The laws' own count, copy and comparison of programs.
-/
namespace Go.Proofs.Ytjpjikfmdaejeaa
set_option linter.unusedVariables false
set_option linter.unusedSimpArgs false
open Go.RowKit

/-- a function: its arity and its body -/
abbrev Df := Int × Tr

/-- the four cells of a function -/
def DfOn (w : World) (S : Nat → Prop) (d : Df) (a b c e : Value) : Prop := a = .int .i64 d.1 ∧ I64 d.1 ∧ TrOn w S d.2 b c e

/-- a slice value that holds these functions -/
def DefsOn (w : World) (S : Nat → Prop) (ds : List Df) (v : Value) : Prop :=
  ∃ ad cap, v = .slice ad ds.length cap ∧ ds.length ≤ cap ∧ cap ≤ maxLen ∧ (ds = [] ∨ ∃ bl off, ad = some ⟨bl, off, none⟩ ∧ S bl ∧ ∀ i (hi : i < ds.length), ∃ a b c e,
    w.cell? ⟨bl, off + i * 4, none⟩ = some a ∧ w.cell? ⟨bl, off + i * 4 + 1, none⟩ = some b ∧ w.cell? ⟨bl, off + i * 4 + 2, none⟩ = some c ∧ w.cell? ⟨bl, off + i * 4 + 3, none⟩ = some e ∧ DfOn w S ds[i] a b c e)

theorem DefsOn.mono {w w' : World} {S S' : Nat → Prop} {ds : List Df} {v : Value} (h : DefsOn w S ds v) (hS : ∀ k, S k → S' k) (hw : ∀ k, S k → w'.heap[k]? = w.heap[k]?) : DefsOn w' S' ds v := by
  obtain ⟨ad, cap, e, l1, l2, h5⟩ := h
  refine ⟨ad, cap, e, l1, l2, ?_⟩
  rcases h5 with h5 | ⟨bl, off, e, s, r⟩
  · exact Or.inl h5
  · refine Or.inr ⟨bl, off, e, hS _ s, fun i hi => ?_⟩
    obtain ⟨a, b, c, x, h1, h2, h3, h4, g1, g2, g3⟩ := r i hi
    refine ⟨a, b, c, x, ?_, ?_, ?_, ?_, g1, g2, g3.mono hS hw⟩
    all_goals rw [World.cell?_of_block (w := w) (hw bl s)]; assumption
abbrev DIn (w : World) (ds : List Df) (v : Value) : Prop := DefsOn w (Lt w.heap.size) ds v
theorem DefsOn.next {w w' : World} {ds : List Df} {v : Value} (h : DIn w ds v) (hb : Below w.heap.size w w') : DIn w' ds v :=
  h.mono (fun k (hk : k < w.heap.size) => Nat.lt_of_lt_of_le hk hb.size) (fun k hk => hb.block k hk)
theorem DefsOn.drew {w : World} {ds : List Df} {v : Value} (h : DIn w ds v) : DIn w.drew ds v := h.next ((Below.refl _ _).drew)
theorem DefsOn.btw_in {w : World} {lo : Nat} {ds : List Df} {v : Value} (h : DefsOn w (Btw lo w.heap.size) ds v) : DIn w ds v :=
  h.mono (fun _ hk => hk.2) (fun _ _ => rfl)

/-- element i, opened -/
theorem DefsOn.at {w : World} {ds : List Df} {ad : Option Addr} {n cap : Nat} (h : DIn w ds (.slice ad n cap)) (i : Nat) (hi : i < ds.length) :
    ∃ bl off c, ad = some ⟨bl, off, none⟩ ∧ w.cell? ⟨bl, off + i * 4, none⟩ = some (.int .i64 ds[i].1) ∧ w.cell? ⟨bl, off + i * 4 + 1, none⟩ = some (.int .i64 ds[i].2.op) ∧ w.cell? ⟨bl, off + i * 4 + 2, none⟩ = some (.int .i64 ds[i].2.num) ∧ w.cell? ⟨bl, off + i * 4 + 3, none⟩ = some c ∧ I64 ds[i].1 ∧ I64 ds[i].2.op ∧ I64 ds[i].2.num ∧ In w ds[i].2.kids c := by
  obtain ⟨ad', cap', he, -, -, hr⟩ := h
  cases he
  rcases hr with rfl | ⟨bl, off, rfl, -, r⟩
  · simp at hi
  obtain ⟨a, b, c, e, h1, h2, h3, h4, rfl, g2, g3⟩ := r i hi
  obtain ⟨rfl, rfl, g5, g6, g7⟩ := trOn_iff.1 g3
  exact ⟨bl, off, e, rfl, h1, h2, h3, h4, g2, g5, g6, g7⟩

/-- the bodies -/
def bodies (ds : List Df) : List Tr := ds.map (·.2)
theorem bodies_length (ds : List Df) : (bodies ds).length = ds.length := by simp [bodies]
theorem bodies_at (ds : List Df) (i : Nat) (hi : i < ds.length) : (bodies ds)[i]'(by rw [bodies_length]; exact hi) = ds[i].2 := by simp [bodies]

/-! ### The copy -/
def NewDf (a o n : Int) (ks : List Tr) (w : World) (e : Ending) (w' : World) : Prop := ∃ v, e = .returned (.agg #[.int .i64 a, .int .i64 o, .int .i64 n, v]) ∧ KidsOn w' (Btw w.heap.size w'.heap.size) ks v ∧ Below w.heap.size w w'
def NewDefs (ds : List Df) (w : World) (e : Ending) (w' : World) : Prop := ∃ v, e = .returned v ∧ DefsOn w' (Btw w.heap.size w'.heap.size) ds v ∧ Below w.heap.size w w'

/-- the world behind the four stores -/
def stD (w1 : World) (b k : Nat) (d : Df) (v : Value) : World :=
  (((w1.setCell ⟨b, k * 4, none⟩ (.int .i64 d.1)).setCell ⟨b, k * 4 + 1, none⟩ (.int .i64 d.2.op)).setCell ⟨b, k * 4 + 2, none⟩ (.int .i64 d.2.num)).setCell ⟨b, k * 4 + 3, none⟩ v

theorem szL_body_le (ds : List Df) (k : Nat) (hk : k < ds.length) : szL ds[k].2.kids ≤ szL (bodies ds) := by
  have h := szL_kids_lt (bodies ds) k (by rw [bodies_length]; exact hk)
  rw [bodies_at ds k hk] at h
  omega

end Go.Proofs.Ytjpjikfmdaejeaa
/-
  THE MODEL's ExprValid (l1Kids, l1Own, l1Shape, l1Count, l1Is, ExprValid): which trees it takes for valid; nothing that was there is changed.
-/
namespace Go.Proofs.Ytjpjikfmdaejeaa
set_option linter.unusedVariables false
set_option linter.unusedSimpArgs false
open Go.RowKit

/-! ### The count of nodes -/

/-- what l1Count answers: the number of nodes, or one more than the bound -/
def cntOut (t : Tr) (most : Int) : Int := if 1 + (szT t : Int) ≤ most then 1 + szT t else most + 1

/-- the count behind the first k operands -/
def cntAt (t : Tr) (most : Int) (k : Nat) : Int := if 1 + (szL (t.kids.take k) : Int) ≤ most then 1 + szL (t.kids.take k) else most + 1

theorem cntAt_zero (t : Tr) (most : Int) (h : 0 ≤ most) : cntAt t most 0 = 1 := by
  unfold cntAt; simp [szL]; omega
theorem cntAt_step (t : Tr) (most : Int) (k : Nat) (hk : k < t.kids.length) (h : cntAt t most k ≤ most) : cntAt t most k + cntOut t.kids[k] (most - cntAt t most k) = cntAt t most (k + 1) := by
  have e := szL_take_succ t.kids k hk
  unfold cntAt at h ⊢
  unfold cntOut
  rw [e]
  split at h
  · rename_i h1
    rw [if_pos h1]
    split
    · rw [if_pos (by omega)]; omega
    · rw [if_neg (by omega)]; omega
  · omega
theorem cntAt_end (t : Tr) (most : Int) (k : Nat) (hk : k ≤ t.kids.length) (h : k = t.kids.length ∨ most < cntAt t most k) : cntOut t most = cntAt t most k := by
  have e := szL_take_le t.kids k
  unfold cntOut cntAt at *
  rw [szT_eq]
  rcases h with rfl | h
  · rw [List.take_length]
  · split at h
    · omega
    · rename_i h1; rw [if_neg h1, if_neg (by omega)]
theorem cntAt_range (t : Tr) (most : Int) (k : Nat) (h : 0 ≤ most) : 1 ≤ cntAt t most k ∧ cntAt t most k ≤ most + 1 := by
  unfold cntAt; split <;> omega
theorem cntOut_range (t : Tr) (most : Int) (h : 0 ≤ most) : 1 ≤ cntOut t most ∧ cntOut t most ≤ most + 1 := by
  unfold cntOut; split <;> omega

/-! ### l1Is, ExprValid -/

/-- valid with these variables and functions -/
def isB (t : Tr) (vars defs : Int) : Bool := shB vars defs 16 t && decide (1 + (szT t : Int) ≤ 60)

end Go.Proofs.Ytjpjikfmdaejeaa
/-
  THE PROGRAM's ExprValid (opOf, nodeOf, the four kinds' fits, nodesLeft, ExprValid): which trees it takes for valid; nothing that was there is changed.
-/
namespace Go.Proofs.Ytjpjikfmdaejeaa
set_option linter.unusedVariables false
set_option linter.unusedSimpArgs false
open Go.RowKit

/-- how nodes of a kind with operands are written -/
def opKids (op : Int) : Int := if op = 4 then 2 else if op = 5 then 2 else if op = 6 then 1 else if op = 7 then 1 else if op = 8 then 2 else if op = 9 then 2 else if op = 10 then 3 else 0
def opMarks (op : Int) : ByteArray := if op = 4 then ⟨#[40, 32, 41]⟩ else if op = 5 then ⟨#[60, 44, 62]⟩ else if op = 6 then ⟨#[126]⟩ else if op = 7 then ⟨#[94]⟩ else if op = 8 then ⟨#[40, 43, 41]⟩ else if op = 9 then ⟨#[40, 45, 41]⟩ else if op = 10 then ⟨#[91, 63, 58, 93]⟩ else ⟨#[]⟩
def opOk (op : Int) : Bool := decide (4 ≤ op ∧ op ≤ 10)

/-- opOf has handed back the row of a kind -/
def OpRow (op : Int) (w : World) (e : Ending) (w' : World) : Prop := e = .returned (.tuple #[.agg #[.int .i64 (opKids op), .string (opMarks op)], .bool (opOk op)]) ∧ Below w.heap.size w w'

theorem opRow_4 {op : Int} (h : (op == 4) = true) : opKids op = 2 ∧ opMarks op = ⟨#[40, 32, 41]⟩ ∧ opOk op = true := by
  have e : op = 4 := by simpa using h
  subst e
  exact ⟨rfl, rfl, rfl⟩
theorem opRow_5 {op : Int} (h : (op == 5) = true) : opKids op = 2 ∧ opMarks op = ⟨#[60, 44, 62]⟩ ∧ opOk op = true := by
  have e : op = 5 := by simpa using h
  subst e
  exact ⟨rfl, rfl, rfl⟩
theorem opRow_6 {op : Int} (h : (op == 6) = true) : opKids op = 1 ∧ opMarks op = ⟨#[126]⟩ ∧ opOk op = true := by
  have e : op = 6 := by simpa using h
  subst e
  exact ⟨rfl, rfl, rfl⟩
theorem opRow_7 {op : Int} (h : (op == 7) = true) : opKids op = 1 ∧ opMarks op = ⟨#[94]⟩ ∧ opOk op = true := by
  have e : op = 7 := by simpa using h
  subst e
  exact ⟨rfl, rfl, rfl⟩
theorem opRow_8 {op : Int} (h : (op == 8) = true) : opKids op = 2 ∧ opMarks op = ⟨#[40, 43, 41]⟩ ∧ opOk op = true := by
  have e : op = 8 := by simpa using h
  subst e
  exact ⟨rfl, rfl, rfl⟩
theorem opRow_9 {op : Int} (h : (op == 9) = true) : opKids op = 2 ∧ opMarks op = ⟨#[40, 45, 41]⟩ ∧ opOk op = true := by
  have e : op = 9 := by simpa using h
  subst e
  exact ⟨rfl, rfl, rfl⟩
theorem opRow_10 {op : Int} (h : (op == 10) = true) : opKids op = 3 ∧ opMarks op = ⟨#[91, 63, 58, 93]⟩ ∧ opOk op = true := by
  have e : op = 10 := by simpa using h
  subst e
  exact ⟨rfl, rfl, rfl⟩
theorem opRow_no {op : Int} (h4 : (op == 4) = false) (h5 : (op == 5) = false) (h6 : (op == 6) = false) (h7 : (op == 7) = false) (h8 : (op == 8) = false) (h9 : (op == 9) = false) (h10 : (op == 10) = false) : opKids op = 0 ∧ opMarks op = ⟨#[]⟩ ∧ opOk op = false := by
  simp only [beq_eq_false_iff_ne] at *
  refine ⟨?_, ?_, ?_⟩
  · unfold opKids; rw [if_neg h4, if_neg h5, if_neg h6, if_neg h7, if_neg h8, if_neg h9, if_neg h10]
  · unfold opMarks; rw [if_neg h4, if_neg h5, if_neg h6, if_neg h7, if_neg h8, if_neg h9, if_neg h10]
  · unfold opOk; rw [decide_eq_false]; omega

set_option maxHeartbeats 400000 in
theorem opOf_calls (op : Int) (w : World) : Calls Try.prog 64 #[.int .i64 op] w (OpRow op w) := by
  go_enter Try.func64, Try.ntmps64
  go_wp2_with fail
  all_goals first
    | (rename (op == 4) = true => ht; obtain ⟨e1, e2, e3⟩ := opRow_4 ht; refine bodyPost_ret (v := .tuple #[.agg #[.int .i64 2, .string ⟨#[40, 32, 41]⟩], .bool true]) (by simp [results, Try.results64, go_sem]) rfl ⟨by rw [e1, e2, e3], box_below _ _⟩)
    | (rename (op == 5) = true => ht; obtain ⟨e1, e2, e3⟩ := opRow_5 ht; refine bodyPost_ret (v := .tuple #[.agg #[.int .i64 2, .string ⟨#[60, 44, 62]⟩], .bool true]) (by simp [results, Try.results64, go_sem]) rfl ⟨by rw [e1, e2, e3], box_below _ _⟩)
    | (rename (op == 6) = true => ht; obtain ⟨e1, e2, e3⟩ := opRow_6 ht; refine bodyPost_ret (v := .tuple #[.agg #[.int .i64 1, .string ⟨#[126]⟩], .bool true]) (by simp [results, Try.results64, go_sem]) rfl ⟨by rw [e1, e2, e3], box_below _ _⟩)
    | (rename (op == 7) = true => ht; obtain ⟨e1, e2, e3⟩ := opRow_7 ht; refine bodyPost_ret (v := .tuple #[.agg #[.int .i64 1, .string ⟨#[94]⟩], .bool true]) (by simp [results, Try.results64, go_sem]) rfl ⟨by rw [e1, e2, e3], box_below _ _⟩)
    | (rename (op == 8) = true => ht; obtain ⟨e1, e2, e3⟩ := opRow_8 ht; refine bodyPost_ret (v := .tuple #[.agg #[.int .i64 2, .string ⟨#[40, 43, 41]⟩], .bool true]) (by simp [results, Try.results64, go_sem]) rfl ⟨by rw [e1, e2, e3], box_below _ _⟩)
    | (rename (op == 9) = true => ht; obtain ⟨e1, e2, e3⟩ := opRow_9 ht; refine bodyPost_ret (v := .tuple #[.agg #[.int .i64 2, .string ⟨#[40, 45, 41]⟩], .bool true]) (by simp [results, Try.results64, go_sem]) rfl ⟨by rw [e1, e2, e3], box_below _ _⟩)
    | (rename (op == 10) = true => ht; obtain ⟨e1, e2, e3⟩ := opRow_10 ht; refine bodyPost_ret (v := .tuple #[.agg #[.int .i64 3, .string ⟨#[91, 63, 58, 93]⟩], .bool true]) (by simp [results, Try.results64, go_sem]) rfl ⟨by rw [e1, e2, e3], box_below _ _⟩)
    | (rename (op == 4) = false => h4; rename (op == 5) = false => h5; rename (op == 6) = false => h6; rename (op == 7) = false => h7; rename (op == 8) = false => h8; rename (op == 9) = false => h9; rename (op == 10) = false => h10; obtain ⟨e1, e2, e3⟩ := opRow_no h4 h5 h6 h7 h8 h9 h10; refine bodyPost_ret (v := .tuple #[.agg #[.int .i64 0, .string ⟨#[]⟩], .bool false]) (by simp [results, Try.results64, go_sem]) rfl ⟨by rw [e1, e2, e3], box_below _ _⟩)

set_option maxHeartbeats 400000 in
theorem nodeOf_1 (n : Int) (len : Nat) (w : World) : Calls Try.prog 63 #[.int .i64 1, .int .i64 n, .int .i64 (len : Int)] w fun e w' => e = .returned (.tuple #[.iface 85 (.int .i64 n), .bool ((len : Int) == 0)]) ∧ Below w.heap.size w w' := by
  go_enter Try.func63, Try.ntmps63
  go_wp2_with fail
  go_ret2
  exact ⟨rfl, Below.refl _ _⟩

set_option maxHeartbeats 400000 in
theorem nodeOf_2 (n : Int) (len : Nat) (w : World) : Calls Try.prog 63 #[.int .i64 2, .int .i64 n, .int .i64 (len : Int)] w fun e w' => e = .returned (.tuple #[.iface 86 (.int .i64 n), .bool ((len : Int) == 0)]) ∧ Below w.heap.size w w' := by
  go_enter Try.func63, Try.ntmps63
  go_wp2_with fail
  go_ret2
  exact ⟨rfl, Below.refl _ _⟩

set_option maxHeartbeats 400000 in
theorem nodeOf_3 (n : Int) (len : Nat) (w : World) : Calls Try.prog 63 #[.int .i64 3, .int .i64 n, .int .i64 (len : Int)] w fun e w' => e = .returned (.tuple #[.iface 87 (.int .i64 n), .bool ((len : Int) == 0)]) ∧ Below w.heap.size w w' := by
  go_enter Try.func63, Try.ntmps63
  go_wp2_with fail
  go_ret2
  exact ⟨rfl, Below.refl _ _⟩

theorem ret_node {v : Value} {a b : Bool} (h : a = b) : Ending.returned (.tuple #[v, .bool a]) = .returned (.tuple #[v, .bool b]) := by rw [h]
/-- nodeOf has handed back a node with operands -/
def OpNode (op : Int) (b : Bool) (w : World) (e : Ending) (w' : World) : Prop := e = .returned (.tuple #[.iface 89 (.agg #[.int .i64 (opKids op), .string (opMarks op)]), .bool b]) ∧ Below w.heap.size w w'
theorem opKids_range (op : Int) : 0 ≤ opKids op ∧ opKids op ≤ 3 := by
  unfold opKids
  repeat' split
  all_goals omega

set_option maxHeartbeats 800000 in
theorem nodeOf_op (op n : Int) (len : Nat) (w : World) (t1 : (op == 1) = false) (t2 : (op == 2) = false) (t3 : (op == 3) = false) :
    Calls Try.prog 63 #[.int .i64 op, .int .i64 n, .int .i64 (len : Int)] w (OpNode op (opOk op && ((n == 0) && ((len : Int) == opKids op))) w) := by
  have hkr := opKids_range op
  go_enter Try.func63, Try.ntmps63
  go_wp2_with fail
  refine (opOf_calls op _).mono ?_
  rintro e w1 ⟨rfl, hb⟩
  have HB : Hid (Below w.heap.size w w1) := hb
  have hle : w.heap.size ≤ w1.heap.size := hb.size
  clear hb
  cases hok : opOk op with
  | false =>
    have HV : Hid ((opOk op && ((n == 0) && ((len : Int) == opKids op))) = false) := by simp [Hid, hok]
    go_wp2_with fail
    have k3 := cell_regrown (box_cell w1 #[.int .i64 (opKids op), .string (opMarks op)] 89 0 _ rfl)
    have k4 := cell_regrown (box_cell w1 #[.int .i64 (opKids op), .string (opMarks op)] 89 1 _ rfl)
    refine wp_region_quiet_below (by kernel_rfl) (by kernel_rfl) ?_
    repeat (any_goals (first | go_big_quiet_step (fail) | quiet_step (fail)))
    refine wpQuiet_nil ?_
    intro _ hw'
    obtain ⟨⟨dq, osq⟩, hw''⟩ := hw'
    subst hw''
    clear k3 k4
    go_wp2_with fail
    go_ret2
    exact ⟨ret_node HV.out.symm, HB.out.trans ((box_below _ _).trans ((below_regrown _ _ _).mono (by rw [Deep.nblk_alloc]; omega)) |>.mono hle)⟩
  | true =>
    by_cases hn : n = 0
    · subst hn
      by_cases hl : (len : Int) = opKids op
      · have hl' : ((len : Int) == opKids op) = true := by simpa using hl
        have HV : Hid ((opOk op && (((0 : Int) == 0) && ((len : Int) == opKids op))) = true) := by simp [Hid, hok, hl']
        clear hl
        go_wp2_with fail
        have k3 := cell_regrown (box_cell w1 #[.int .i64 (opKids op), .string (opMarks op)] 89 0 _ rfl)
        have k4 := cell_regrown (box_cell w1 #[.int .i64 (opKids op), .string (opMarks op)] 89 1 _ rfl)
        refine wp_region_quiet_below (by kernel_rfl) (by kernel_rfl) ?_
        repeat (any_goals (first | go_big_quiet_step (fail) | quiet_step (fail)))
        refine wpQuiet_nil ?_
        intro _ hw'
        obtain ⟨⟨dq, osq⟩, hw''⟩ := hw'
        subst hw''
        clear k3 k4
        go_wp2_with fail
        go_ret2
        exact ⟨ret_node HV.out.symm, HB.out.trans ((box_below _ _).trans ((below_regrown _ _ _).mono (by rw [Deep.nblk_alloc]; omega)) |>.mono hle)⟩
      · have hl' : ((len : Int) == opKids op) = false := by simpa using hl
        have HV : Hid ((opOk op && (((0 : Int) == 0) && ((len : Int) == opKids op))) = false) := by simp [Hid, hok, hl']
        clear hl
        go_wp2_with fail
        have k3 := cell_regrown (box_cell w1 #[.int .i64 (opKids op), .string (opMarks op)] 89 0 _ rfl)
        have k4 := cell_regrown (box_cell w1 #[.int .i64 (opKids op), .string (opMarks op)] 89 1 _ rfl)
        refine wp_region_quiet_below (by kernel_rfl) (by kernel_rfl) ?_
        repeat (any_goals (first | go_big_quiet_step (fail) | quiet_step (fail)))
        refine wpQuiet_nil ?_
        intro _ hw'
        obtain ⟨⟨dq, osq⟩, hw''⟩ := hw'
        subst hw''
        clear k3 k4
        go_wp2_with fail
        go_ret2
        exact ⟨ret_node HV.out.symm, HB.out.trans ((box_below _ _).trans ((below_regrown _ _ _).mono (by rw [Deep.nblk_alloc]; omega)) |>.mono hle)⟩
    · have hn' : (n == 0) = false := by simpa using hn
      have HV : Hid ((opOk op && ((n == 0) && ((len : Int) == opKids op))) = false) := by simp [Hid, hok, hn']
      go_wp2_with fail
      have k3 := cell_regrown (box_cell w1 #[.int .i64 (opKids op), .string (opMarks op)] 89 0 _ rfl)
      have k4 := cell_regrown (box_cell w1 #[.int .i64 (opKids op), .string (opMarks op)] 89 1 _ rfl)
      refine wp_region_quiet_below (by kernel_rfl) (by kernel_rfl) ?_
      repeat (any_goals (first | go_big_quiet_step (fail) | quiet_step (fail)))
      refine wpQuiet_nil ?_
      intro _ hw'
      obtain ⟨⟨dq, osq⟩, hw''⟩ := hw'
      subst hw''
      clear k3 k4
      go_wp2_with fail
      go_ret2
      exact ⟨ret_node HV.out.symm, HB.out.trans ((box_below _ _).trans ((below_regrown _ _ _).mono (by rw [Deep.nblk_alloc]; omega)) |>.mono hle)⟩
end Go.Proofs.Ytjpjikfmdaejeaa
/-
  A NODE OF THE PROGRAM: nodeOf's answer, the method fits that it leads to, and that one's answer.
-/
namespace Go.Proofs.Ytjpjikfmdaejeaa
set_option linter.unusedVariables false
set_option linter.unusedSimpArgs false
open Go.RowKit

/-- is a node right at its top? -/
def topC (op num : Int) (n : Nat) (vars defs : Int) : Bool := decide ((n : Int) = arity op) && ownB op num vars defs
def topB (t : Tr) (vars defs : Int) : Bool := topC t.op t.num t.kids.length vars defs

/-- what is known of the node at a tree's top: nodeOf's answer, the method that it leads to, and that one's answer -/
structure NodeAt (vars defs op num : Int) (n : Nat) (T : TypeId) (x : Value) (K : FuncId) (ok fit : Bool) : Prop where
  node : ∀ (w : World), Calls Try.prog 63 #[.int .i64 op, .int .i64 num, .int .i64 (n : Int)] w fun e w' => e = .returned (.tuple #[.iface T x, .bool ok]) ∧ Below w.heap.size w w'
  meth : ∀ w : World, (method 210 T x "loop.example/graphreducer/impl.fits").run Try.prog w = .ok (K, x) w
  enters : ∀ (args : Array Value) (w : World), (callFunc K args).run Try.prog w = .ok (.enter K args) w
  fits : ok = true → ∀ w : World, Calls Try.prog K #[x, .int .i64 vars, .int .i64 defs] w fun e w' => e = .returned (.bool fit) ∧ Below w.heap.size w w'
  top : (ok && fit) = topC op num n vars defs

set_option maxHeartbeats 400000 in
theorem fits_1 (n vars defs : Int) (w : World) : Calls Try.prog 80 #[.int .i64 n, .int .i64 vars, .int .i64 defs] w fun e w' => e = .returned (.bool (ownB 1 n vars defs)) ∧ Below w.heap.size w w' := by
  by_cases h0 : 0 ≤ n
  · go_enter Try.func80, Try.ntmps80
    go_wp2_with fail
    go_ret
    exact ⟨ret_bool (by simp [ownB, h0]), Below.refl _ _⟩
  · have h1 : decide (0 ≤ n) = false := by simpa using h0
    go_enter Try.func80, Try.ntmps80
    go_wp2_with fail
    go_ret
    exact ⟨ret_bool (by simp [ownB]; omega), Below.refl _ _⟩
theorem meth_1 (n : Int) (w : World) : (method 210 85 (.int .i64 n) "loop.example/graphreducer/impl.fits").run Try.prog w = .ok (80, .int .i64 n) w := by kernel_rfl
theorem enters_1 (args : Array Value) (w : World) : (callFunc 80 args).run Try.prog w = .ok (.enter 80 args) w := by kernel_rfl
theorem nodeAt_1 (vars defs op num : Int) (n : Nat) (h : op = 1) : NodeAt vars defs op num n 85 (.int .i64 num) 80 ((n : Int) == 0) (ownB op num vars defs) where
  node w := by rw [h]; exact nodeOf_1 num n w
  meth w := meth_1 _ w
  enters := enters_1
  fits _ w := by rw [h]; exact fits_1 _ _ _ w
  top := by unfold topC; rw [h, show arity 1 = 0 from rfl]; rfl

set_option maxHeartbeats 400000 in
theorem fits_2 (n vars defs : Int) (w : World) : Calls Try.prog 82 #[.int .i64 n, .int .i64 vars, .int .i64 defs] w fun e w' => e = .returned (.bool (ownB 2 n vars defs)) ∧ Below w.heap.size w w' := by
  by_cases h0 : 0 ≤ n
  · go_enter Try.func82, Try.ntmps82
    go_wp2_with fail
    go_ret
    exact ⟨ret_bool (by simp [ownB, h0]), Below.refl _ _⟩
  · have h1 : decide (0 ≤ n) = false := by simpa using h0
    go_enter Try.func82, Try.ntmps82
    go_wp2_with fail
    go_ret
    exact ⟨ret_bool (by simp [ownB]; omega), Below.refl _ _⟩
theorem meth_2 (n : Int) (w : World) : (method 210 86 (.int .i64 n) "loop.example/graphreducer/impl.fits").run Try.prog w = .ok (82, .int .i64 n) w := by kernel_rfl
theorem enters_2 (args : Array Value) (w : World) : (callFunc 82 args).run Try.prog w = .ok (.enter 82 args) w := by kernel_rfl
theorem nodeAt_2 (vars defs op num : Int) (n : Nat) (h : op = 2) : NodeAt vars defs op num n 86 (.int .i64 num) 82 ((n : Int) == 0) (ownB op num vars defs) where
  node w := by rw [h]; exact nodeOf_2 num n w
  meth w := meth_2 _ w
  enters := enters_2
  fits _ w := by rw [h]; exact fits_2 _ _ _ w
  top := by unfold topC; rw [h, show arity 2 = 0 from rfl]; rfl

set_option maxHeartbeats 400000 in
theorem fits_3 (n vars defs : Int) (w : World) : Calls Try.prog 84 #[.int .i64 n, .int .i64 vars, .int .i64 defs] w fun e w' => e = .returned (.bool (ownB 3 n vars defs)) ∧ Below w.heap.size w w' := by
  by_cases h0 : 0 ≤ n
  · go_enter Try.func84, Try.ntmps84
    go_wp2_with fail
    go_ret
    exact ⟨ret_bool (by simp [ownB, h0]), Below.refl _ _⟩
  · have h1 : decide (0 ≤ n) = false := by simpa using h0
    go_enter Try.func84, Try.ntmps84
    go_wp2_with fail
    go_ret
    exact ⟨ret_bool (by simp [ownB]; omega), Below.refl _ _⟩
theorem meth_3 (n : Int) (w : World) : (method 210 87 (.int .i64 n) "loop.example/graphreducer/impl.fits").run Try.prog w = .ok (84, .int .i64 n) w := by kernel_rfl
theorem enters_3 (args : Array Value) (w : World) : (callFunc 84 args).run Try.prog w = .ok (.enter 84 args) w := by kernel_rfl
theorem nodeAt_3 (vars defs op num : Int) (n : Nat) (h : op = 3) : NodeAt vars defs op num n 87 (.int .i64 num) 84 ((n : Int) == 0) (ownB op num vars defs) where
  node w := by rw [h]; exact nodeOf_3 num n w
  meth w := meth_3 _ w
  enters := enters_3
  fits _ w := by rw [h]; exact fits_3 _ _ _ w
  top := by unfold topC; rw [h, show arity 3 = 0 from rfl]; rfl

set_option maxHeartbeats 400000 in
theorem fits_o (k : Int) (m : ByteArray) (vars defs : Int) (w : World) : Calls Try.prog 86 #[.agg #[.int .i64 k, .string m], .int .i64 vars, .int .i64 defs] w fun e w' => e = .returned (.bool true) ∧ Below w.heap.size w w' := by
  go_enter Try.func86, Try.ntmps86
  go_wp2_with fail
  go_ret
  exact ⟨rfl, box_below _ _⟩
theorem meth_o (k : Int) (m : ByteArray) (w : World) : (method 210 89 (.agg #[.int .i64 k, .string m]) "loop.example/graphreducer/impl.fits").run Try.prog w = .ok (86, .agg #[.int .i64 k, .string m]) w := by kernel_rfl
theorem enters_o (args : Array Value) (w : World) : (callFunc 86 args).run Try.prog w = .ok (.enter 86 args) w := by kernel_rfl
theorem nodeAt_o (vars defs op num : Int) (n : Nat) (h1 : op ≠ 1) (h2 : op ≠ 2) (h3 : op ≠ 3) : NodeAt vars defs op num n 89 (.agg #[.int .i64 (opKids op), .string (opMarks op)]) 86 (opOk op && ((num == 0) && ((n : Int) == opKids op))) true where
  node w := nodeOf_op op num n w (by simpa using h1) (by simpa using h2) (by simpa using h3)
  meth w := meth_o _ _ w
  enters := enters_o
  fits _ w := fits_o _ _ _ _ w
  top := by
    unfold topC ownB
    rw [if_neg h1, if_neg h2, if_neg h3, Bool.and_true]
    by_cases hr : 4 ≤ op ∧ op ≤ 10
    · have e : opKids op = arity op := by
        have : op = 4 ∨ op = 5 ∨ op = 6 ∨ op = 7 ∨ op = 8 ∨ op = 9 ∨ op = 10 := by omega
        rcases this with h | h | h | h | h | h | h <;> rw [h] <;> rfl
      have e2 : opOk op = true := by unfold opOk; rw [decide_eq_true hr]
      rw [e, e2, Bool.true_and, Bool.and_comm]
      rfl
    · have e2 : opOk op = false := by unfold opOk; rw [decide_eq_false hr]
      have e3 : arity op = -1 := by
        unfold arity
        rw [if_neg (by omega), if_neg (by omega), if_neg (by omega), if_neg (by omega)]
      rw [e2, e3, Bool.false_and, decide_eq_false (by omega), Bool.false_and]
end Go.Proofs.Ytjpjikfmdaejeaa
/-
  THE PROGRAM's nodesLeft AND ExprValid: which trees they take for valid; nothing that was there is changed.
-/
namespace Go.Proofs.Ytjpjikfmdaejeaa
set_option linter.unusedVariables false
set_option linter.unusedSimpArgs false
open Go.RowKit

theorem nlOut_bad (vars defs : Int) (d : Nat) (t : Tr) (nodes : Int) (h : topB t vars defs = false) : nlOut vars defs d t nodes = -1 := by
  unfold nlOut
  rw [if_neg]
  rintro ⟨h1, _⟩
  cases d with
  | zero => simp [shB] at h1
  | succ d =>
    simp only [shB, Bool.and_eq_true] at h1
    simp only [topB, topC] at h
    rw [h1.1.1, h1.1.2] at h
    simp at h
theorem nlOut_zero (vars defs : Int) (t : Tr) (nodes : Int) : nlOut vars defs 0 t nodes = -1 := by
  unfold nlOut; rw [if_neg]; rintro ⟨h1, _⟩; simp [shB] at h1
theorem nlOut_none (vars defs : Int) (d : Nat) (t : Tr) : nlOut vars defs d t 0 = -1 := by
  unfold nlOut; rw [if_neg]; rintro ⟨_, h⟩; omega

/-- what is left behind the first k operands -/
def nlAt (t : Tr) (nodes : Int) (k : Nat) : Int := nodes - 1 - szL (t.kids.take k)
theorem nlOut_kid (vars defs : Int) (d : Nat) (t : Tr) (nodes : Int) (k : Nat) (hk : k < t.kids.length) (h : 0 ≤ nlOut vars defs d t.kids[k] (nlAt t nodes k)) :
    nlOut vars defs d t.kids[k] (nlAt t nodes k) = nlAt t nodes (k + 1) ∧ shB vars defs d t.kids[k] = true := by
  have e := szL_take_succ t.kids k hk
  unfold nlOut at h ⊢
  split at h
  · rename_i h1
    rw [if_pos h1]
    unfold nlAt
    rw [e]
    exact ⟨by omega, h1.1⟩
  · omega
theorem nlOut_kid_bad (vars defs : Int) (d : Nat) (t : Tr) (nodes : Int) (k : Nat) (hk : k < t.kids.length) (h : nlOut vars defs d t.kids[k] (nlAt t nodes k) < 0) (h0 : 0 ≤ nlAt t nodes k) : nlOut vars defs (d + 1) t nodes = -1 := by
  have e := szL_take_succ t.kids k hk
  have e2 := szL_take_le t.kids (k + 1)
  unfold nlOut
  rw [if_neg]
  rintro ⟨h1, h2⟩
  simp only [shB, Bool.and_eq_true, List.all_eq_true] at h1
  have h3 := h1.2 _ (List.getElem_mem hk)
  unfold nlOut at h
  rw [if_pos] at h
  · rw [szT_eq t] at h2; unfold nlAt at *; omega
  · refine ⟨h3, ?_⟩
    rw [szT_eq t] at h2; unfold nlAt; omega
theorem nlOut_end (vars defs : Int) (d : Nat) (t : Tr) (nodes : Int) (ht : topB t vars defs = true) (ha : (t.kids.take t.kids.length).all (shB vars defs d) = true) (h0 : 0 ≤ nlAt t nodes t.kids.length) : nlOut vars defs (d + 1) t nodes = nlAt t nodes t.kids.length := by
  rw [List.take_length] at ha
  unfold nlAt at *
  rw [List.take_length] at *
  unfold nlOut
  rw [if_pos, szT_eq]
  · omega
  · refine ⟨?_, by rw [szT_eq]; omega⟩
    simp only [topB, topC, Bool.and_eq_true] at ht
    simp only [shB, ha, ht.1, ht.2, Bool.and_true]
theorem nlOut_range (vars defs : Int) (d : Nat) (t : Tr) (nodes : Int) (h : 0 ≤ nodes) : -1 ≤ nlOut vars defs d t nodes ∧ nlOut vars defs d t nodes ≤ nodes := by
  unfold nlOut; split <;> omega

end Go.Proofs.Ytjpjikfmdaejeaa
/-
  THE MODEL's AND THE PROGRAM's ProgramValid: which programs they take for valid; nothing that was there is changed.
-/
namespace Go.Proofs.Ytjpjikfmdaejeaa
set_option linter.unusedVariables false
set_option linter.unusedSimpArgs false
open Go.RowKit

/-- a valid program -/
def progB (ds : List Df) : Bool := decide (ds.length ≤ 6) && ds.all fun d => validB d.2 d.1 ds.length

theorem progB_long (ds : List Df) (h : 6 < ds.length) : progB ds = false := by unfold progB; rw [decide_eq_false (by omega), Bool.false_and]
theorem progB_bad (ds : List Df) (k : Nat) (hk : k < ds.length) (h : validB ds[k].2 ds[k].1 ds.length = false) : progB ds = false := by
  unfold progB
  rw [Bool.and_eq_false_iff]
  right
  rw [List.all_eq_false]
  exact ⟨ds[k], List.getElem_mem hk, by simp [h]⟩
theorem progB_end (ds : List Df) (h : ds.length ≤ 6) (ha : (ds.take ds.length).all (fun d => validB d.2 d.1 ds.length) = true) : progB ds = true := by
  rw [List.take_length] at ha
  unfold progB
  rw [ha, decide_eq_true h]; rfl
theorem all_take_succ' {α : Type} (p : α → Bool) (l : List α) (i : Nat) (h : i < l.length) : (l.take (i + 1)).all p = ((l.take i).all p && p l[i]) := by
  rw [List.take_succ_eq_append_getElem h, List.all_append]; simp
theorem validB_is (t : Tr) (v d : Int) (h : 0 ≤ v ∧ v ≤ 4 ∧ 0 ≤ d ∧ d ≤ 6) : validB t v d = isB t v d := by
  simp only [validB, isB]
  rw [decide_eq_true h, Bool.true_and]
  congr 1
  rw [decide_eq_decide]
  omega
theorem validB_no (t : Tr) (v d : Int) (h : ¬ (0 ≤ v ∧ v ≤ 4 ∧ 0 ≤ d ∧ d ≤ 6)) : validB t v d = false := by
  simp only [validB]; rw [decide_eq_false h, Bool.false_and]

end Go.Proofs.Ytjpjikfmdaejeaa
/-
  PLAIN FACTS ON A PROGRAM AND A GRAPH: arities; which cells stand for values.
-/
namespace Go.Proofs.Ytjpjikfmdaejeaa
set_option linter.unusedVariables false
set_option linter.unusedSimpArgs false

/-- the arities -/
def arsOf (ds : List Df) : List Int := ds.map (·.1)
theorem arOf_at (ds : List Df) (n : Nat) (h : n < ds.length) : arOf (arsOf ds) (n : Int) = ds[n].1 := by
  unfold arOf arsOf
  simp [h]
theorem glob_num {g : List Ce} {defs : Int} (h : graphB g defs = true) (f : Nat) (hf : f < g.length) (ho : g[f].op = 3) : ∃ n : Nat, g[f].num = (n : Int) ∧ (n : Int) < defs := by
  have hc := graphB_cell h f hf
  unfold cellB fitsB ownB at hc
  simp only [ho, Bool.and_eq_true, decide_eq_true_eq] at hc
  have h2 := hc.1.2
  simp at h2
  exact ⟨g[f].num.toNat, by omega, by omega⟩
theorem valB_none {ars : List Int} {g : List Ce} {a : Nat} (h : spine g a = none) : valB ars g a = false := by unfold valB; rw [h]
theorem valB_num {ars : List Int} {g : List Ce} {a f : Nat} {l : List Nat} (h : spine g a = some (f, l)) (ho : opAt g f = 2 ∨ opAt g f = 5) : valB ars g a = decide (l.length = 0) := by
  unfold valB; rw [h]; exact if_pos ho
theorem valB_glob {ars : List Int} {g : List Ce} {a f : Nat} {l : List Nat} (h : spine g a = some (f, l)) (ho : opAt g f = 3) : valB ars g a = decide ((l.length : Int) < arOf ars (numAt g f)) := by
  unfold valB; rw [h]
  show (if opAt g f = 2 ∨ opAt g f = 5 then _ else _) = _
  rw [if_neg (by omega), decide_eq_true ho, Bool.true_and]
theorem valB_no {ars : List Int} {g : List Ce} {a f : Nat} {l : List Nat} (h : spine g a = some (f, l)) (h2 : opAt g f ≠ 2) (h5 : opAt g f ≠ 5) (h3 : opAt g f ≠ 3) : valB ars g a = false := by
  unfold valB; rw [h]
  show (if opAt g f = 2 ∨ opAt g f = 5 then _ else _) = _
  rw [if_neg (by omega), decide_eq_false h3, Bool.false_and]
/-- are a program, a graph and a cell valid together? -/
def rightB (ds : List Df) (g : List Ce) (root : Int) : Bool := progB ds && (graphB g ds.length && isAt g.length root)
def valO (ds : List Df) (g : List Ce) (root : Int) : Bool := rightB ds g root && valB (arsOf ds) g root.toNat
end Go.Proofs.Ytjpjikfmdaejeaa
/-
  PLAIN FACTS ON REDEXES.
-/
namespace Go.Proofs.Ytjpjikfmdaejeaa
set_option linter.unusedVariables false
set_option linter.unusedSimpArgs false

def rdI (o : Option Nat) : Int := match o with | some b => (b : Int) | none => 0
/-- 0: there is one; 2: stuck -/
def rdC (o : Option Nat) : Nat := match o with | some _ => 0 | none => 2

theorem redexN_none {ars : List Int} {g : List Ce} {n a : Nat} (h : spine g a = none) : redexN ars g n a = none := by
  cases n with
  | zero => rfl
  | succ n => unfold redexN; rw [h]
theorem redexN_glob {ars : List Int} {g : List Ce} {n a f : Nat} {l : List Nat} (h : spine g a = some (f, l)) (ho : opAt g f = 3) : redexN ars g (n + 1) a = some (callAt f l (arOf ars (numAt g f))) := by
  unfold redexN; rw [h]; exact if_pos ho
theorem redexN_val {ars : List Int} {g : List Ce} {n a f : Nat} {l : List Nat} (h : spine g a = some (f, l)) (ho : opAt g f = 2 ∨ opAt g f = 5) : redexN ars g (n + 1) a = none := by
  unfold redexN; rw [h]
  show (if opAt g f = 3 then _ else if opAt g f = 2 ∨ opAt g f = 5 then _ else _) = _
  rw [if_neg (by omega), if_pos ho]
theorem redexN_op {ars : List Int} {g : List Ce} {n a f : Nat} {l : List Nat} (h : spine g a = some (f, l)) (h3 : opAt g f ≠ 3) (h2 : opAt g f ≠ 2) (h5 : opAt g f ≠ 5) :
    redexN ars g (n + 1) a = (match waits ars g f with | none => none | some none => some f | some (some k) => redexN ars g n k) := by
  conv => lhs; unfold redexN
  rw [h]
  show (if opAt g f = 3 then _ else if opAt g f = 2 ∨ opAt g f = 5 then _ else _) = _
  rw [if_neg h3, if_neg (by omega)]
  cases waits ars g f with
  | none => rfl
  | some o => cases o <;> rfl
/-- the kinds of a cell that is neither application nor indirection -/
theorem op_kinds {g : List Ce} {defs : Int} (h : graphB g defs = true) (f : Nat) (hf : f < g.length) (h4 : g[f].op ≠ 4) (h11 : g[f].op ≠ 11) (h2 : g[f].op ≠ 2) (h3 : g[f].op ≠ 3) (h5 : g[f].op ≠ 5) : (g[f].op = 6 ∨ g[f].op = 7 ∨ g[f].op = 8 ∨ g[f].op = 9 ∨ g[f].op = 10) ∧ (g[f].kids.length : Int) = (if g[f].op = 6 ∨ g[f].op = 7 then 1 else if g[f].op = 10 then 3 else 2) := by
  have hc := graphB_cell h f hf
  have hv := @ownB_var g[f].num defs
  unfold cellB fitsB at hc
  simp only [Bool.and_eq_true, decide_eq_true_eq] at hc
  have h1 : g[f].op ≠ 1 := fun e => by have := hc.1.2; rw [e, hv] at this; cases this
  have hk := hc.1.1
  unfold cArity arity at hk
  rw [if_neg h11] at hk
  generalize g[f].op = o at *
  by_cases a6 : o = 6
  · subst a6; simp at hk ⊢; omega
  by_cases a7 : o = 7
  · subst a7; simp at hk ⊢; omega
  by_cases a8 : o = 8
  · subst a8; simp at hk ⊢; omega
  by_cases a9 : o = 9
  · subst a9; simp at hk ⊢; omega
  by_cases a10 : o = 10
  · subst a10; simp at hk ⊢; omega
  rw [if_neg (by omega), if_neg (by omega), if_neg (by omega), if_neg a10] at hk
  omega
/-- a cell that stands for a value stands for a cell -/
theorem val_follow {ars : List Int} {g : List Ce} {k : Nat} (h : valB ars g k = true) : ∃ b, followN g g.length k = some b := by
  cases hf : followN g g.length k with
  | some b => exact ⟨b, rfl⟩
  | none =>
    have hs : spine g k = none := by unfold spine spineN; rw [hf]
    rw [valB_none hs] at h; cases h
theorem waits1 {ars : List Int} {g : List Ce} {f : Nat} (ho : opAt g f = 6 ∨ opAt g f = 7) : waits ars g f = waitOne ars g (kidAt g f 0) 5 (some none) := by unfold waits; rw [if_pos ho]
theorem waits10 {ars : List Int} {g : List Ce} {f : Nat} (ho : opAt g f = 10) : waits ars g f = waitOne ars g (kidAt g f 0) 2 (some none) := by unfold waits; rw [if_neg (by omega), if_pos ho]
theorem waits2 {ars : List Int} {g : List Ce} {f : Nat} (ho : opAt g f = 8 ∨ opAt g f = 9) : waits ars g f = waitOne ars g (kidAt g f 0) 2 (waitOne ars g (kidAt g f 1) 2 (some none)) := by unfold waits; rw [if_neg (by omega), if_neg (by omega)]
theorem wait_go {ars : List Int} {g : List Ce} {k : Nat} {kind : Int} {r : Option (Option Nat)} (h : valB ars g k = false) : waitOne ars g k kind r = some (some k) := by unfold waitOne; rw [if_pos h]
theorem wait_stuck {ars : List Int} {g : List Ce} {k b : Nat} {kind : Int} {r : Option (Option Nat)} (h : valB ars g k = true) (hf : followN g g.length k = some b) (ho : opAt g b ≠ kind) : waitOne ars g k kind r = none := by
  unfold waitOne kindOf; rw [if_neg (by rw [h]; simp), hf]
  exact if_neg (by simpa using ho)
theorem wait_ok {ars : List Int} {g : List Ce} {k b : Nat} {kind : Int} {r : Option (Option Nat)} (h : valB ars g k = true) (hf : followN g g.length k = some b) (ho : opAt g b = kind) : waitOne ars g k kind r = r := by
  unfold waitOne kindOf; rw [if_neg (by rw [h]; simp), hf]
  exact if_pos (by simpa using ho)
/-- a call's place among the applications -/
theorem call_idx {ds : List Df} {g : List Ce} {a f : Nat} {l : List Nat} {n : Nat} (hs : spine g a = some (f, l)) (ho : opAt g f = 3) (hn : numAt g f = (n : Int)) (hnl : n < ds.length) (hv : valB (arsOf ds) g a = false) : ds[n].1 ≤ l.length := by
  rw [valB_glob hs ho, hn, arOf_at ds n hnl, decide_eq_false_iff_not] at hv
  omega
theorem prog_ar {ds : List Df} (h : progB ds = true) (n : Nat) (hn : n < ds.length) : 0 ≤ ds[n].1 := by
  unfold progB at h
  simp only [Bool.and_eq_true, List.all_eq_true] at h
  have h1 := h.2 _ (List.getElem_mem hn)
  unfold validB at h1
  simp only [Bool.and_eq_true, decide_eq_true_eq] at h1
  omega
theorem callAt_zero {f : Nat} {l : List Nat} : callAt f l 0 = f := by unfold callAt; rw [if_pos rfl]
theorem callAt_at {f : Nat} {l : List Nat} {ar m : Nat} (h0 : ar ≠ 0) (hm : m + ar = l.length) : callAt f l (ar : Int) = l[m]'(by omega) := by
  unfold callAt
  rw [if_neg (by omega), Int.toNat_natCast, show l.length - ar = m by omega, getD_at]

/-! ### Waiting for operands, one after the other -/
def waitsL (ars : List Int) (g : List Ce) (kind : Int) : List Nat → Option (Option Nat)
  | [] => some none
  | k :: ks => waitOne ars g k kind (waitsL ars g kind ks)
/-- how many operands of a kind must have values, and of which kind -/
def manyOf (op : Int) : Nat := if op = 6 ∨ op = 7 ∨ op = 10 then 1 else 2
def kindIn (op : Int) : Int := if op = 6 ∨ op = 7 then 5 else 2
theorem kids_take {g : List Ce} {defs : Int} (h : graphB g defs = true) (f : Nat) (hf : f < g.length) (j : Nat) (hj : j < g[f].kids.length) : (kidsN g f)[j]? = some (kidAt g f j) := by
  obtain ⟨k, h1, h2, h3⟩ := kidsN_get h f hf j hj
  unfold kidAt
  rw [List.getD_eq_getElem?_getD, h3]; rfl
theorem waits_list {ars : List Int} {g : List Ce} {f : Nat} (ho : opAt g f = 6 ∨ opAt g f = 7 ∨ opAt g f = 8 ∨ opAt g f = 9 ∨ opAt g f = 10) :
    waits ars g f = waitsL ars g (kindIn (opAt g f)) (((List.range (manyOf (opAt g f))).map (kidAt g f))) := by
  by_cases h : opAt g f = 6 ∨ opAt g f = 7
  · rw [waits1 h]
    have e1 : manyOf (opAt g f) = 1 := by unfold manyOf; rw [if_pos (by omega)]
    have e2 : kindIn (opAt g f) = 5 := by unfold kindIn; rw [if_pos h]
    rw [e1, e2]; rfl
  · by_cases h10 : opAt g f = 10
    · rw [waits10 h10]
      have e1 : manyOf (opAt g f) = 1 := by unfold manyOf; rw [if_pos (by omega)]
      have e2 : kindIn (opAt g f) = 2 := by unfold kindIn; rw [if_neg h]
      rw [e1, e2]; rfl
    · rw [waits2 (by omega)]
      have e1 : manyOf (opAt g f) = 2 := by unfold manyOf; rw [if_neg (by omega)]
      have e2 : kindIn (opAt g f) = 2 := by unfold kindIn; rw [if_neg h]
      rw [e1, e2]; rfl

theorem waitsL_some {ars : List Int} {g : List Ce} {kind : Int} {kk : Nat} : ∀ (l : List Nat), waitsL ars g kind l = some (some kk) → kk ∈ l ∧ valB ars g kk = false
  | [], h => by simp [waitsL] at h
  | k :: l, h => by
    unfold waitsL waitOne at h
    split at h
    · rename_i hv
      simp only [Option.some.injEq] at h
      subst h
      exact ⟨List.mem_cons_self .., hv⟩
    · split at h
      · have := waitsL_some l h
        exact ⟨List.mem_cons_of_mem _ this.1, this.2⟩
      · cases h

/-! ### What RedexOf answers -/
def rxI (ds : List Df) (g : List Ce) (a : Int) : Int := if rightB ds g a = true then (if valB (arsOf ds) g a.toNat = true then a else rdI (redex (arsOf ds) g a.toNat)) else 0
def rxC (ds : List Df) (g : List Ce) (a : Int) : Int := if rightB ds g a = true then (if valB (arsOf ds) g a.toNat = true then 0 else (rdC (redex (arsOf ds) g a.toNat) : Int)) else 4
theorem rx_no {ds : List Df} {g : List Ce} {a : Int} (h : rightB ds g a = false) : rxI ds g a = 0 ∧ rxC ds g a = 4 := by
  unfold rxI rxC; rw [if_neg (by rw [h]; simp), if_neg (by rw [h]; simp)]; exact ⟨rfl, rfl⟩
theorem rx_val {ds : List Df} {g : List Ce} {a : Nat} (h : rightB ds g (a : Int) = true) (hv : valB (arsOf ds) g a = true) : rxI ds g (a : Int) = a ∧ rxC ds g (a : Int) = 0 := by
  unfold rxI rxC; rw [if_pos h, if_pos h, Int.toNat_natCast, if_pos hv, if_pos hv]; exact ⟨rfl, rfl⟩
theorem rx_red {ds : List Df} {g : List Ce} {a : Nat} (h : rightB ds g (a : Int) = true) (hv : valB (arsOf ds) g a = false) : rxI ds g (a : Int) = rdI (redex (arsOf ds) g a) ∧ rxC ds g (a : Int) = (rdC (redex (arsOf ds) g a) : Int) := by
  unfold rxI rxC; rw [if_pos h, if_pos h, Int.toNat_natCast, if_neg (by rw [hv]; simp), if_neg (by rw [hv]; simp)]; exact ⟨rfl, rfl⟩
theorem right_parts {ds : List Df} {g : List Ce} {a : Int} (h : rightB ds g a = true) : progB ds = true ∧ graphB g ds.length = true ∧ 0 ≤ a ∧ a < g.length := by
  unfold rightB isAt at h
  simp only [Bool.and_eq_true, decide_eq_true_eq] at h
  exact ⟨h.1, h.2.1, h.2.2⟩
end Go.Proofs.Ytjpjikfmdaejeaa
/-
  PLAIN: the cells of an expression, added to a graph. No program is named here.
-/
namespace Go.Proofs.Ytjpjikfmdaejeaa
set_option linter.unusedVariables false
set_option linter.unusedSimpArgs false

mutual
/-- the graph with the cells of a tree, and the tree's cell -/
def addT (args : List Nat) : Tr → List Ce → List Ce × Nat
  | .node op n ks, g => if op = 1 then (g, args.getD n.toNat 0) else ((addL args ks g).1 ++ [⟨op, n, (addL args ks g).2.map fun (a : Nat) => (a : Int)⟩], (addL args ks g).1.length)
/-- .. of the trees of a list, one behind the other -/
def addL (args : List Nat) : List Tr → List Ce → List Ce × List Nat
  | [], g => (g, [])
  | t :: ts, g => ((addL args ts (addT args t g).1).1, (addT args t g).2 :: (addL args ts (addT args t g).1).2)
end
theorem addT_var {args : List Nat} {t : Tr} (g : List Ce) (h : t.op = 1) : addT args t g = (g, args.getD t.num.toNat 0) := by
  cases t with
  | node op n ks => simp only [Tr.op_node] at h; simp [addT, h]
theorem addT_other {args : List Nat} {t : Tr} (g : List Ce) (h : ¬ t.op = 1) : addT args t g = ((addL args t.kids g).1 ++ [⟨t.op, t.num, (addL args t.kids g).2.map fun (a : Nat) => (a : Int)⟩], (addL args t.kids g).1.length) := by
  cases t with
  | node op n ks => simp only [Tr.op_node] at h; simp [addT, h]
theorem addL_snoc (args : List Nat) : ∀ (ts : List Tr) (t : Tr) (g : List Ce), addL args (ts ++ [t]) g = ((addT args t (addL args ts g).1).1, (addL args ts g).2 ++ [(addT args t (addL args ts g).1).2])
  | [], t, g => by simp [addL]
  | x :: ts, t, g => by
    have := addL_snoc args ts t (addT args x g).1
    simp only [List.cons_append, addL, this]
theorem addL_length (args : List Nat) : ∀ (ts : List Tr) (g : List Ce), (addL args ts g).2.length = ts.length
  | [], g => by simp [addL]
  | x :: ts, g => by simp [addL, addL_length args ts]
theorem addL_take_succ (args : List Nat) (ts : List Tr) (g : List Ce) (k : Nat) (hk : k < ts.length) : addL args (ts.take (k + 1)) g = ((addT args ts[k] (addL args (ts.take k) g).1).1, (addL args (ts.take k) g).2 ++ [(addT args ts[k] (addL args (ts.take k) g).1).2]) := by
  rw [List.take_succ_eq_append_getElem hk, addL_snoc]
theorem sumK_one (c : Ce) : sumK [c] = c.kids.length := by simp [sumK]
mutual
theorem addT_size (args : List Nat) : ∀ (t : Tr) (g : List Ce), g.length ≤ (addT args t g).1.length ∧ (addT args t g).1.length ≤ g.length + 1 + szT t ∧ sumK (addT args t g).1 ≤ sumK g + szT t
  | .node op n ks, g => by
    have h := addL_size args ks g
    have hl := addL_length args ks g
    unfold addT
    split
    · simp only [szT]; omega
    · have e : sumK ((addL args ks g).1 ++ [⟨op, n, (addL args ks g).2.map fun (a : Nat) => (a : Int)⟩]) = sumK (addL args ks g).1 + ks.length := by
        rw [sumK_append, sumK_one]; simp [hl]
      have e2 : szL ks = ks.length + sumT ks := szL_sum ks
      simp only [List.length_append, List.length_cons, List.length_nil, szT, e]
      have h3 := h.2.2
      omega
theorem addL_size (args : List Nat) : ∀ (ts : List Tr) (g : List Ce), g.length ≤ (addL args ts g).1.length ∧ (addL args ts g).1.length ≤ g.length + szL ts ∧ sumK (addL args ts g).1 ≤ sumK g + sumT ts
  | [], g => by simp [addL, szL, sumT]
  | t :: ts, g => by
    have h1 := addT_size args t g
    have h2 := addL_size args ts (addT args t g).1
    simp only [addL, szL, sumT_cons]
    omega
end
end Go.Proofs.Ytjpjikfmdaejeaa
