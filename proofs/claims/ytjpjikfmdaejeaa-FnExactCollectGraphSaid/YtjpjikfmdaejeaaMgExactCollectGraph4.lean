/-
  THE MODEL's CopyOrder AND CopyGraph.
-/
import Derived.Test.YtjpjikfmdaejeaaMgExactCollectGraph3
import Derived.Test.YtjpjikfmdaejeaaMgExactCollectGraph2
import Derived.Laws.OwnMore
import Derived.Test.YtjpjikfmdaejeaaMgExactCollectGraph1
import Derived.Maps.OwnSet
import Derived.Deep.DeepCutAuto
import Derived.Deep.RegionWith
import Derived.Deep.RegionHeld3
import Derived.Deep.RegionLaw
import Derived.IntWalk
namespace Go.Proofs.Ytjpjikfmdaejeaa
set_option linter.unusedVariables false
set_option linter.unusedSimpArgs false
open Go.RowKit

/-- a graph and ints, somewhere in memory, and whether -/
def GotGI (r : List Ce × List Nat) (ok : Bool) (w : World) (e : Ending) (w' : World) : Prop :=
  ∃ gv tv, e = .returned (.tuple #[gv, tv, .bool ok]) ∧ CIn w' r.1 gv ∧ IIn w' (plI r.2) tv ∧ Below w.heap.size w w'
theorem cin_nil (w : World) (ad : Option Addr) (cap : Nat) (h : cap ≤ maxLen) : CIn w [] (.slice ad 0 cap) := ⟨ad, cap, rfl, Nat.zero_le _, h, Or.inl rfl⟩
theorem iin_nil (w : World) (ad : Option Addr) (cap : Nat) (h : cap ≤ maxLen) : IIn w [] (.slice ad 0 cap) := ⟨ad, cap, rfl, Nat.zero_le _, h, Or.inl rfl⟩
theorem OwnC.cin {w : World} {lo : Nat} {S : Nat → Prop} {g : List Ce} {v : Value} (h : OwnC w lo S g v) (hS : ∀ k, S k → k < w.heap.size → lo ≤ k) : CIn w g v := (h.own hS).inn

set_option maxHeartbeats 800000 in
theorem specCopyG_calls (g : List Ce) (rs : List Int) (v rv : Value) (w : World) (hk : CIn w g v) (hr : IIn w rs rv) :
    Calls Try.prog 9 #[v, rv] w (GotGI (copyO g rs) (rootB g rs) w) := by
  have HK : Hid (CIn w g v) := hk
  have HR : Hid (IIn w rs rv) := hr
  clear hk hr
  go_enter Try.func9, Try.ntmps9
  go_wp2_with fail
  refine (l5Right_calls g rs _ _ _ HK.out HR.out).mono ?_
  rintro e w1 ⟨rfl, hb1⟩
  have HB1 : Hid (Below w.heap.size w w1) := hb1
  clear hb1
  cases hg : rootB g rs with
  | false =>
    have HV := mkHid (copyO_no hg)
    have HT := mkHid hg
    clear hg
    go_wp2_with fail
    go_ret3
    rw [HV.out, HT.out]
    exact ⟨_, _, rfl, cin_nil _ _ 0 (by simp [maxLen]), iin_nil _ _ 0 (by simp [maxLen]), (HB1.out.alloc HB1.out.size _).alloc (by rw [Deep.nblk_alloc]; have := HB1.out.size; omega) _⟩
  | true =>
    have HT := mkHid hg
    have HV := mkHid (copyO_yes hg)
    have HR2 : Hid (IIn w1 (plI (natL rs)) rv) := by
      have h := HR.out.next HB1.out
      rw [root_back hg] at h
      exact h
    clear hg
    go_wp2_with fail
    refine (l5Copy_calls g (natL rs) _ _ _ (HK.out.next HB1.out) HR2.out (rootB_iff.1 HT.out).1 (root_lt HT.out) (by rw [natL_len]; exact (rootB_iff.1 HT.out).2.1)).mono ?_
    rintro e w2 ⟨gv, tv, rfl, ho, hs, hb2⟩
    have HO := mkHid (ho.cin fun k h _ => h)
    have HS := mkHid hs.pin
    have HB2 : Hid (Below w.heap.size w w2) := HB1.out.trans (hb2.mono HB1.out.size)
    clear ho hs hb2
    go_wp2_with fail
    go_ret3
    rw [HV.out, HT.out]
    exact ⟨_, _, rfl, HO.out, HS.out, HB2.out⟩

set_option maxHeartbeats 800000 in
theorem specOrderG_calls (g : List Ce) (rs : List Int) (v rv : Value) (w : World) (hk : CIn w g v) (hr : IIn w rs rv) :
    Calls Try.prog 19 #[v, rv] w (NewInts (plI (orderO g rs)) w) := by
  have HK : Hid (CIn w g v) := hk
  have HR : Hid (IIn w rs rv) := hr
  clear hk hr
  go_enter Try.func19, Try.ntmps19
  go_wp2_with fail
  refine (l5Right_calls g rs _ _ _ HK.out HR.out).mono ?_
  rintro e w1 ⟨rfl, hb1⟩
  have HB1 : Hid (Below w.heap.size w w1) := hb1
  clear hb1
  cases hg : rootB g rs with
  | false =>
    have HV := mkHid (orderO_no hg)
    clear hg
    go_wp2_with fail
    go_ret
    rw [HV.out]
    exact ⟨_, rfl, no_ints _ _ _ _ (by simp [maxLen]), HB1.out.alloc HB1.out.size _⟩
  | true =>
    have HT := mkHid hg
    have HV := mkHid (orderO_yes hg)
    have HR2 : Hid (IIn w1 (plI (natL rs)) rv) := by
      have h := HR.out.next HB1.out
      rw [root_back hg] at h
      exact h
    clear hg
    go_wp2_with fail
    refine (l5Order_calls g (natL rs) _ _ _ (HK.out.next HB1.out) HR2.out (rootB_iff.1 HT.out).1 (root_lt HT.out) (by rw [natL_len]; exact (rootB_iff.1 HT.out).2.1)).mono ?_
    rintro e w2 ⟨tv, rfl, hs, hb2⟩
    have HS := mkHid (hs.lower HB1.out.size).row
    have HB2 : Hid (Below w.heap.size w w2) := HB1.out.trans (hb2.mono HB1.out.size)
    clear hs hb2
    go_wp2_with fail
    go_ret
    rw [HV.out]
    exact ⟨_, rfl, HS.out, HB2.out⟩
end Go.Proofs.Ytjpjikfmdaejeaa
/-
  THE MODEL's l5Skip: past indirections.
-/
namespace Go.Proofs.Ytjpjikfmdaejeaa
set_option linter.unusedVariables false
set_option linter.unusedSimpArgs false
open Go.RowKit

set_option maxHeartbeats 800000 in
theorem l5Skip_calls (g : List Ce) (a : Nat) (v : Value) (w : World) (hk : CIn w g v) (hg : graphB g 6 = true) (ha : a < g.length) :
    Calls Try.prog 46 #[v, .int .i64 (a : Int)] w fun e w' => e = .returned (.int .i64 (skipN g a : Int)) ∧ Below w.heap.size w w' := by
  have HK : Hid (CIn w g v) := hk
  have HG := mkHid hg
  have HSK : Hid (skipN g a = (followN g g.length a).getD a) := rfl
  clear hk hg
  go_enter Try.func46, Try.ntmps46
  go_wp2_with fail
  refine (l3Follow_calls g a _ _ HK.out ⟨6, HG.out⟩ ha).mono ?_
  rintro e w1 ⟨rfl, hb1⟩
  have HB1 : Hid (Below w.heap.size w w1) := hb1
  clear hb1
  rw [follow_enough HG.out a ha]
  cases hf : followN g g.length a with
  | none =>
    have HV : Hid (skipN g a = a) := by rw [Hid, HSK.out, hf]; rfl
    clear hf
    have e1 : folI none = -1 := rfl
    rw [e1]
    go_wp2_with fail
    go_ret
    exact ⟨ret_int (by rw [HV.out]), HB1.out⟩
  | some b =>
    have HV : Hid (skipN g a = b) := by rw [Hid, HSK.out, hf]; rfl
    clear hf
    have e1 : folI (some b) = (b : Int) := rfl
    rw [e1]
    have hbn : ¬ ((b : Int) < 0) := by omega
    go_wp2_with fail
    go_ret
    exact ⟨ret_int (by rw [HV.out]), HB1.out⟩
end Go.Proofs.Ytjpjikfmdaejeaa
/-
  AN OPERAND OF A CELL OF A GRAPH THAT IS BEING BUILT, OVERWRITTEN.
-/
namespace Go.Proofs.Ytjpjikfmdaejeaa
set_option linter.unusedVariables false
set_option linter.unusedSimpArgs false
open Go.RowKit

/-- a cell with one operand overwritten -/
def setKid (g : List Ce) (i q : Nat) (y : Int) : List Ce := g.modify i fun c => ⟨c.op, c.num, c.kids.set q y⟩
theorem setKid_len (g : List Ce) (i q : Nat) (y : Int) : (setKid g i q y).length = g.length := by simp [setKid]
theorem setKid_at (g : List Ce) (i q : Nat) (y : Int) (j : Nat) (hj : j < g.length) : (setKid g i q y)[j]'(by rw [setKid_len]; exact hj) = if i = j then ⟨g[j].op, g[j].num, g[j].kids.set q y⟩ else g[j] := by
  unfold setKid; rw [List.getElem_modify]
theorem setKid_op (g : List Ce) (i q : Nat) (y : Int) (j : Nat) (hj : j < g.length) : ((setKid g i q y)[j]'(by rw [setKid_len]; exact hj)).op = g[j].op ∧ ((setKid g i q y)[j]'(by rw [setKid_len]; exact hj)).num = g[j].num ∧ ((setKid g i q y)[j]'(by rw [setKid_len]; exact hj)).kids.length = g[j].kids.length := by
  rw [setKid_at g i q y j hj]; split <;> simp
theorem nil_len {α : Type} {l : List α} : l = [] ↔ l.length = 0 := List.length_eq_zero_iff.symm
/-- where an operand lies -/
theorem OwnC.kidAt {w : World} {lo : Nat} {S : Nat → Prop} {g : List Ce} {v : Value} (h : OwnC w lo S g v) (i : Nat) (hi : i < g.length) (q : Nat) (hq : q < g[i].kids.length) :
    ∃ b cap blk capk, v = .slice (some ⟨b, 0, none⟩) g.length cap ∧ lo ≤ b ∧ b < w.heap.size ∧ S blk ∧ blk < w.heap.size ∧ b ≠ blk ∧ g[i].kids.length ≤ capk ∧ capk ≤ maxLen ∧ w.cell? ⟨b, i * 3 + 2, none⟩ = some (.slice (some ⟨blk, 0, none⟩) g[i].kids.length capk) ∧
      w.cell? ⟨blk, q, none⟩ = some (.int .i64 g[i].kids[q]) ∧ w.frozen? ⟨blk, q, none⟩ = false ∧ ∀ y, OwnC (w.setCell ⟨blk, q, none⟩ (.int .i64 y)) lo S (setKid g i q y) v := by
  obtain ⟨hi0, xs, kb, h1, h2, h3⟩ := h
  obtain ⟨kv, e0, e1, e2, adk, capk, rfl, l1, l2, h5⟩ := h2 i hi
  rcases h5 with h5 | ⟨f, rfl, hS, hr, hf⟩
  · rw [h5] at hq; simp at hq
  obtain ⟨C, hC, -, -⟩ := id hr
  have hne : ∀ k, some k = v.ownBlock → k ≠ kb i := by
    rintro k e rfl
    rcases h1.2 with ⟨rfl, -⟩ | ⟨b, cap, cur, rfl, -, hh, -⟩
    · simp [Value.ownBlock] at e
    · simp only [Value.ownBlock, Option.some.injEq] at e
      rw [e, hh] at hC
      simp at hC
  obtain ⟨b, cap, rfl, hlo, hbl⟩ : ∃ b cap, v = .slice (some ⟨b, 0, none⟩) g.length cap ∧ lo ≤ b ∧ b < w.heap.size := by
    rcases h1.2 with ⟨rfl, h0⟩ | ⟨b, cap, cur, rfl, hg, hh, -⟩
    · omega
    · exact ⟨b, cap, rfl, hg, (Array.getElem?_eq_some_iff.1 hh).1⟩
  have hcell := h1.cellAt (i * 3 + 2) (by omega)
  have hfq := hr.cell (i := q) (by omega)
  rw [hf q hq] at hfq
  refine ⟨b, cap, kb i, capk, rfl, hlo, hbl, hS, hr.lt, hne b rfl, l1, l2, ?_, hfq, hr.frozen q, fun y => ?_⟩
  · rw [hcell]; exact e2
  have keepb : ∀ k, k ≠ kb i → (w.setCell ⟨kb i, q, none⟩ (.int .i64 y)).heap[k]? = w.heap[k]? := fun k hk => Below.heap_setCell _ _ _ _ hk
  refine ⟨fun j hj => ?_, xs, kb, ?_, fun j hj => ?_, ?_⟩
  · have hj2 : j < g.length := by rw [setKid_len] at hj; exact hj
    obtain ⟨a1, a2, -⟩ := setKid_op g i q y j hj2
    rw [a1, a2]; exact hi0 j hj2
  · rw [setKid_len]
    refine ⟨h1.1, ?_⟩
    rcases h1.2 with h | ⟨b2, cap2, cur, e, hg, hh, r⟩
    · exact Or.inl h
    · exact Or.inr ⟨b2, cap2, cur, e, hg, (keepb b2 (hne b2 (by rw [e]; rfl))).trans hh, r⟩
  · have hj2 : j < g.length := by rw [setKid_len] at hj; exact hj
    obtain ⟨a1, a2, a3⟩ := setKid_op g i q y j hj2
    obtain ⟨kv2, f0, f1, f2, f3⟩ := h2 j hj2
    refine ⟨kv2, by rw [a1]; exact f0, by rw [a2]; exact f1, f2, ?_⟩
    obtain ⟨ad2, cap2, rfl, m1, m2, f5⟩ := f3
    refine ⟨ad2, cap2, by rw [a3], by rw [a3]; exact m1, m2, ?_⟩
    rcases f5 with f5 | ⟨f', rfl, hS', hr', hf'⟩
    · exact Or.inl (nil_len.2 (by rw [a3, f5]; rfl))
    · by_cases hji : j = i
      · subst hji
        have hc2 : cap2 = capk := by
          rw [e2] at f2
          simp only [Option.some.injEq, Value.slice.injEq] at f2
          exact f2.2.2.symm
        subst hc2
        refine Or.inr ⟨fun x => if x = q then .int .i64 y else f x, rfl, hS, hr.set q _, fun x hx => ?_⟩
        rw [a3] at hx
        simp only [setKid_at g j q y j hj2, if_pos, List.getElem_set]
        by_cases e : x = q
        · rw [if_pos e, if_pos e.symm]
        · rw [if_neg e, if_neg (fun h => e h.symm)]; exact hf x hx
      · have hkk : g[j].kids = [] ∨ kb j ≠ kb i := by
          by_cases hn : g[j].kids = []
          · exact Or.inl hn
          · exact Or.inr (h3 j i hj2 hi hji hn (fun e => by rw [e] at hq; simp at hq))
        rcases hkk with hkk | hkk
        · exact Or.inl (nil_len.2 (by rw [a3, hkk]; rfl))
        · refine Or.inr ⟨f', rfl, hS', hr'.of_block (keepb _ hkk), fun x hx => ?_⟩
          simp only [setKid_at g i q y j hj2, if_neg (fun e : i = j => hji e.symm)] at hx ⊢
          exact hf' x hx
  · intro a b ha hb hab ea eb
    rw [setKid_len] at ha hb
    refine h3 a b ha hb hab (fun e => ea (nil_len.2 ?_)) (fun e => eb (nil_len.2 ?_))
    · rw [(setKid_op g i q y a ha).2.2, e]; rfl
    · rw [(setKid_op g i q y b hb).2.2, e]; rfl
end Go.Proofs.Ytjpjikfmdaejeaa
/-
  PLAIN: operands replaced one by one by the cells for which they stand. No program is named here.
-/
namespace Go.Proofs.Ytjpjikfmdaejeaa
set_option linter.unusedVariables false
set_option linter.unusedSimpArgs false

/-- the operands of the cells before i, and the first k of cell i, are replaced -/
def shortP (g : List Ce) (i k : Nat) : List Ce := g.mapIdx fun j c => ⟨c.op, c.num, c.kids.mapIdx fun q x => if j < i ∨ (j = i ∧ q < k) then (skipN g x.toNat : Int) else x⟩
theorem shortP_len (g : List Ce) (i k : Nat) : (shortP g i k).length = g.length := by simp [shortP]
theorem shortP_at (g : List Ce) (i k j : Nat) (hj : j < g.length) : (shortP g i k)[j]'(by rw [shortP_len]; exact hj) = ⟨g[j].op, g[j].num, g[j].kids.mapIdx fun q x => if j < i ∨ (j = i ∧ q < k) then (skipN g x.toNat : Int) else x⟩ := by simp [shortP]
theorem ce_ext {a b : Ce} (h1 : a.op = b.op) (h2 : a.num = b.num) (h3 : a.kids = b.kids) : a = b := by cases a; cases b; simp_all
theorem shortP_zero (g : List Ce) : shortP g 0 0 = g := by
  refine List.ext_getElem (shortP_len g 0 0) fun j h1 h2 => ?_
  rw [shortP_at g 0 0 j h2]
  refine ce_ext rfl rfl (List.ext_getElem (by simp) fun q h3 h4 => ?_)
  simp only [List.getElem_mapIdx]
  rw [if_neg (by omega)]
theorem shortP_end (g : List Ce) : shortP g g.length 0 = shortG g := by
  refine List.ext_getElem (by rw [shortP_len, shortG_len]) fun j h1 h2 => ?_
  rw [shortG_len] at h2
  rw [shortP_at g _ 0 j h2, shortG_at g j h2]
  unfold shortC
  refine ce_ext rfl rfl (List.ext_getElem (by simp) fun q h3 h4 => ?_)
  simp only [List.getElem_mapIdx, List.getElem_map]
  rw [if_pos (Or.inl h2)]
theorem shortP_next (g : List Ce) (i k : Nat) (hi : i < g.length) (hk : g[i].kids.length ≤ k) : shortP g i k = shortP g (i + 1) 0 := by
  refine List.ext_getElem (by rw [shortP_len, shortP_len]) fun j h1 h2 => ?_
  rw [shortP_len] at h2
  rw [shortP_at g i k j h2, shortP_at g (i + 1) 0 j h2]
  refine ce_ext rfl rfl (List.ext_getElem (by simp) fun q h3 h4 => ?_)
  simp only [List.getElem_mapIdx]
  simp only [List.length_mapIdx] at h3
  have e : (j < i ∨ (j = i ∧ q < k)) ↔ (j < i + 1 ∨ (j = i + 1 ∧ q < 0)) := by
    by_cases hji : j = i
    · subst hji; constructor <;> intro _ <;> omega
    · omega
  by_cases h : j < i ∨ (j = i ∧ q < k)
  · rw [if_pos h, if_pos (e.1 h)]
  · rw [if_neg h, if_neg (fun h2 => h (e.2 h2))]
theorem shortP_kid (g : List Ce) (i k : Nat) (hi : i < g.length) (hk : k < g[i].kids.length) : ((shortP g i k)[i]'(by rw [shortP_len]; exact hi)).kids.length = g[i].kids.length ∧ ∀ h, ((shortP g i k)[i]'(by rw [shortP_len]; exact hi)).kids[k]'h = g[i].kids[k] := by
  refine ⟨by rw [shortP_at g i k i hi]; simp, fun h => ?_⟩
  simp only [shortP_at g i k i hi, List.getElem_mapIdx]
  rw [if_neg (by omega)]
theorem shortP_klen (g : List Ce) (i k : Nat) (hi : i < g.length) : ((shortP g i k)[i]'(by rw [shortP_len]; exact hi)).kids.length = g[i].kids.length := by rw [shortP_at g i k i hi]; simp
theorem shortP_step (g : List Ce) (i k : Nat) (hi : i < g.length) (hk : k < g[i].kids.length) : setKid (shortP g i k) i k (skipN g (g[i].kids[k]).toNat : Int) = shortP g i (k + 1) := by
  refine List.ext_getElem (by rw [setKid_len, shortP_len, shortP_len]) fun j h1 h2 => ?_
  rw [shortP_len] at h2
  rw [setKid_at _ _ _ _ j (by rw [shortP_len]; exact h2), shortP_at g i (k + 1) j h2, shortP_at g i k j h2]
  split
  · rename_i e
    subst e
    refine ce_ext rfl rfl (List.ext_getElem (by simp) fun q h3 h4 => ?_)
    simp only [List.getElem_set, List.getElem_mapIdx]
    by_cases hq : k = q
    · subst hq
      rw [if_pos rfl]
      exact (if_pos (Or.inr ⟨trivial, Nat.lt_succ_self _⟩)).symm
    · rw [if_neg hq]
      by_cases h : q < k
      · rw [if_pos (Or.inr ⟨trivial, h⟩)]
        exact (if_pos (Or.inr ⟨trivial, Nat.lt_succ_of_lt h⟩)).symm
      · have h1 : ¬ (i < i ∨ (True ∧ q < k)) := by simp; omega
        have h2 : ¬ (i < i ∨ (True ∧ q < k + 1)) := by simp; omega
        rw [if_neg h1]
        exact (if_neg h2).symm
  · rename_i e
    refine ce_ext rfl rfl (List.ext_getElem (by simp) fun q h3 h4 => ?_)
    simp only [List.getElem_mapIdx]
    by_cases h : j < i
    · rw [if_pos (Or.inl h)]
      exact (if_pos (Or.inl h)).symm
    · have h1 : ¬ (j < i ∨ (j = i ∧ q < k)) := by omega
      have h2 : ¬ (j < i ∨ (j = i ∧ q < k + 1)) := by omega
      rw [if_neg h1]
      exact (if_neg h2).symm
end Go.Proofs.Ytjpjikfmdaejeaa
/-
  THE MODEL's l5Short: operands past indirections, in place on a copy.
-/
namespace Go.Proofs.Ytjpjikfmdaejeaa
set_option linter.unusedVariables false
set_option linter.unusedSimpArgs false
open Go.RowKit

theorem set_congr {w W : World} {j : Nat} (h : W.heap[j]? = w.heap[j]?) (a : Addr) (v : Value) : (W.setCell a v).heap[j]? = (w.setCell a v).heap[j]? := by
  simp only [World.setCell, Array.getElem?_modify, h]
theorem CellsOn.at' {w : World} {g : List Ce} {v : Value} (h : CIn w g v) (i : Nat) (hi : i < g.length) :
    ∃ bl off c, v = .slice (some ⟨bl, off, none⟩) g.length (match v with | .slice _ _ c => c | _ => 0) ∧ w.cell? ⟨bl, off + i * 3, none⟩ = some (.int .i64 g[i].op) ∧ w.cell? ⟨bl, off + i * 3 + 1, none⟩ = some (.int .i64 g[i].num) ∧ w.cell? ⟨bl, off + i * 3 + 2, none⟩ = some c ∧ I64 g[i].op ∧ I64 g[i].num ∧ IIn w g[i].kids c := by
  obtain ⟨ad, cap, rfl, l1, l2, h5⟩ := id h
  obtain ⟨bl, off, c, rfl, r⟩ := CellsOn.at h i hi
  exact ⟨bl, off, c, rfl, r⟩

set_option maxRecDepth 100000 in
set_option maxHeartbeats 3200000 in
theorem l5Short_calls (g : List Ce) (v : Value) (w : World) (hk : CIn w g v) (hg : graphB g 6 = true) : Calls Try.prog 47 #[v] w (CopyRes (shortG g) w) := by
  have HK : Hid (CIn w g v) := hk
  have HG := mkHid hg
  have h400 : g.length ≤ 400 := graphB_len hg
  obtain ⟨ad, cap, rfl, hl, hm, -⟩ := hk
  unfold maxLen at hm
  clear hg
  go_enter Try.func47, Try.ntmps47
  go_wp2_with fail
  refine (l3Copy_calls g _ _ HK.out ⟨6, HG.out⟩).mono ?_
  rintro e w1 ⟨gv, rfl, ho, hb1⟩
  have HB1 : Hid (Below w.heap.size w w1) := hb1
  have HO0 : Hid (OwnC w1 w.heap.size (fun b => w.heap.size ≤ b) (shortP g 0 0) gv) := by rw [Hid, shortP_zero]; exact ho
  obtain ⟨adg, capg, rfl⟩ := ho.form
  clear ho hb1
  go_wp2_with fail
  go_loopw [4] (fun z wr => ∃ i : Nat, i ≤ g.length ∧ z = .int .i64 i ∧ OwnC wr w.heap.size (fun b => w.heap.size ≤ b) (shortP g i 0) (.slice adg g.length capg) ∧ Below w.heap.size w wr) (fun z _ => g.length - (intOf z).toNat)
  case atStart => exact ⟨0, Nat.zero_le _, rfl, HO0.out, HB1.out⟩
  case round =>
    obtain ⟨i, hi, rfl, ho, hb⟩ := hrel
    obtain ⟨wo, rfl⟩ : ∃ wo : World, wo = wr := ⟨_, rfl⟩
    have HO := mkHid ho
    have HB : Hid (Below w.heap.size w wo) := hb
    by_cases hlt : i < g.length
    · clear ho hb
      go_wp2_with fail
      go_loopw [5] (fun z wr => ∃ k : Nat, k ≤ g[i].kids.length ∧ z = .int .i64 k ∧ OwnC wr w.heap.size (fun b => w.heap.size ≤ b) (shortP g i k) (.slice adg g.length capg) ∧ Below w.heap.size w wr) (fun z _ => g[i].kids.length - (intOf z).toNat)
      case atStart => exact ⟨0, Nat.zero_le _, rfl, HO.out, HB.out⟩
      case round =>
        obtain ⟨k, hk, rfl, ho, hb⟩ := hrel
        have HO2 := mkHid ho
        have HB2 : Hid (Below w.heap.size w wr) := hb
        have hiS : i < (shortP g i k).length := by rw [shortP_len]; exact hlt
        by_cases hltk : k < g[i].kids.length
        · obtain ⟨hkl1, hkl2⟩ := shortP_kid g i k hlt hltk
          obtain ⟨b, cap', blk, capk, e, hlb, hbz, hSb, hbkz, hne, hkc, hkm, c2, dk, fk, hset⟩ := ho.kidAt i hiS k (by rw [hkl1]; exact hltk)
          rw [hkl1] at c2 hkc
          rw [hkl2] at dk
          simp only [Value.slice.injEq] at e
          obtain ⟨rfl, -, -⟩ := e
          obtain ⟨hke, hkx⟩ := kidAt_get HG.out i hlt k hltk
          have HSTEP := mkHid (shortP_step g i k hlt hltk)
          obtain ⟨x, hx⟩ : ∃ x, x = kidAt g i k := ⟨_, rfl⟩
          rw [hke, ← hx] at dk HSTEP
          rw [← hx] at hkx
          have HSET : Hid (∀ W, Below wr.heap.size wr W → OwnC (W.setCell ⟨blk, k, none⟩ (.int .i64 (skipN g x : Int))) w.heap.size (fun b => w.heap.size ≤ b) (shortP g i (k + 1)) (.slice (some ⟨b, 0, none⟩) g.length capg) ∧ Below w.heap.size w (W.setCell ⟨blk, k, none⟩ (.int .i64 (skipN g x : Int)))) := fun W hW => by
            have h := hset (skipN g x : Int)
            have e : setKid (shortP g i k) i k (skipN g x : Int) = shortP g i (k + 1) := by have h := HSTEP.out; rw [Int.toNat_natCast] at h; exact h
            rw [e] at h
            exact ⟨h.next (fun _ h _ => h) (fun j _ hz => set_congr (hW.block j (by rw [size_setCell] at hz; exact hz)) _ _) (fun j _ hz => set_congr (hW.block j (by rw [size_setCell] at hz; exact hz)) _ _), (HB2.out.trans (hW.mono HB2.out.size)).setCell hSb _⟩
          have HNE : Hid (∀ W : World, W.cell? ⟨b, i * 3 + 2, none⟩ = some (.slice (some ⟨blk, 0, none⟩) g[i].kids.length capk) → (W.setCell ⟨blk, k, none⟩ (.int .i64 (skipN g x : Int))).cell? ⟨b, i * 3 + 2, none⟩ = some (.slice (some ⟨blk, 0, none⟩) g[i].kids.length capk)) := fun W h => (World.cell?_of_block (Below.heap_setCell _ _ _ _ hne)).trans h
          have hkI : (k : Int) < (g[i].kids.length : Int) := by omega
          have hiI : (i : Int) < (g.length : Int) := by omega
          have c2d : wr.drew.cell? ⟨b, i * 3 + 2, none⟩ = some (.slice (some ⟨blk, 0, none⟩) g[i].kids.length capk) := c2
          have dkd : wr.drew.cell? ⟨blk, k, none⟩ = some (.int .i64 (x : Int)) := dk
          unfold maxLen at hkm
          clear ho hb hset hx hke hkl1 hkl2 hne hlb hSb
          go_wp2_with fail
          go_region_with (first
              | (go_at_call 46; refine (l5Skip_calls g x _ _ ((HK.out.next HB2.out).drew) HG.out hkx).mono ?_; rintro e w5 ⟨rfl, hb5⟩; have HB5 : Hid (Below wr.heap.size wr w5) := ((Below.refl _ _).drew).trans hb5; have n2 := (HB5.out.cell (p := ⟨b, i * 3 + 2, none⟩) hbz).trans c2; have n3 := (HB5.out.cell (p := ⟨blk, k, none⟩) hbkz).trans dk; have nf := (HB5.out.frozen (p := ⟨blk, k, none⟩) hbkz).trans fk; clear hb5))
          all_goals
            have HFIN := mkHid (HSET.out w5 HB5.out)
            clear n2 n3 nf
            go_wp2_with fail
            go_roundw
            case rel => exact ⟨k + 1, by omega, by go_num, HFIN.out.1, HFIN.out.2⟩
            case measure => simp [intOf]; omega
        · have hke : k = g[i].kids.length := by omega
          have HN : Hid (OwnC wr w.heap.size (fun b => w.heap.size ≤ b) (shortP g (i + 1) 0) (.slice adg g.length capg)) := by
            rw [← shortP_next g i k hlt (by omega)]; exact ho
          obtain ⟨bl, off, r2, e, -, -, c2, -, -, hkk⟩ := ((ho.own fun k h _ => h).inn).at' i hiS
          obtain ⟨adk, capk, rfl, -, -, -⟩ := id hkk
          rw [shortP_klen g i k hlt] at c2
          simp only [Value.slice.injEq] at e
          obtain ⟨rfl, -, -⟩ := e
          clear ho hb hkk
          go_wp2_with fail
          go_roundw
          case rel => exact ⟨i + 1, by omega, by go_num, HN.out, HB2.out⟩
          case measure => simp [intOf]; omega
    · have hie : i = g.length := by omega
      have HE : Hid (OwnC wo w.heap.size (fun b => w.heap.size ≤ b) (shortG g) (.slice adg g.length capg)) := by
        have h := HO.out
        rw [hie, shortP_end] at h; exact h
      clear ho hb hie
      go_wp2_with fail
      go_ret
      exact ⟨_, rfl, HE.out, HB.out⟩
end Go.Proofs.Ytjpjikfmdaejeaa
/-
  THE MODEL's l5Collect AND CollectGraph.
-/
namespace Go.Proofs.Ytjpjikfmdaejeaa
set_option linter.unusedVariables false
set_option linter.unusedSimpArgs false
open Go.RowKit

set_option maxRecDepth 100000 in
set_option maxHeartbeats 1600000 in
theorem l5Collect_calls (g : List Ce) (rs : List Nat) (v rv : Value) (w : World) (hk : CIn w g v) (hr : IIn w (plI rs) rv) (hg : graphB g 6 = true) (hlt : ∀ x ∈ rs, x < g.length) (h20 : rs.length ≤ 20) :
    Calls Try.prog 35 #[v, rv] w (NewGI (copyG (shortG g) (rs.map (skipN g))) (topsG (shortG g) (rs.map (skipN g))) w) := by
  have HK : Hid (CIn w g v) := hk
  have HR : Hid (IIn w (plI rs) rv) := hr
  have HG := mkHid hg
  have HLT := mkHid hlt
  have H20 := mkHid h20
  obtain ⟨ad, cap, rfl, -, -, -⟩ := hk
  obtain ⟨adr, capr, rfl, hlr, hmr⟩ := pl_form hr
  unfold maxLen at hmr
  have HS0 : Hid (Stk (w.alloc (.cells #[] 3)) w.heap.size ((rs.take 0).map (skipN g)) (.slice (some ⟨w.heap.size, 0, none⟩) 0 0)) := stk_zero (Deep.blk_alloc_new w _) (Nat.le_refl _)
  clear hr hg hlt
  go_enter Try.func35, Try.ntmps35
  go_wp2_with fail
  go_loopw [6, 7] (fun top z wr => ∃ k : Nat, k ≤ rs.length ∧ z = .int .i64 k ∧ Stk wr w.heap.size ((rs.take k).map (skipN g)) top ∧ Below w.heap.size w wr) (fun _ z _ => rs.length - (intOf z).toNat)
  case atStart => exact ⟨0, Nat.zero_le _, rfl, HS0.out, box_below _ _⟩
  case round =>
    obtain ⟨k, hk, rfl, hst, hb⟩ := hrel
    have HS := mkHid hst
    have HB : Hid (Below w.heap.size w wr) := hb
    have hsw := hb.size
    have hjl : ((rs.take k).map (skipN g)).length = k := by rw [List.length_map, List.length_take]; omega
    have HJL := mkHid hjl
    obtain ⟨adp, capp, rfl⟩ : ∃ ad cap, u6 = .slice ad k cap := by obtain ⟨x, y, e⟩ := hst.len; rw [hjl] at e; exact ⟨x, y, e⟩
    clear hst hjl
    by_cases hlt : k < rs.length
    · obtain ⟨bl, off, x, rfl, hbl, hx, hxm, d0w⟩ := pl_at HR.out k hlt
      have d0 := (hb.cell (p := ⟨bl, off + k, none⟩) hbl).trans d0w
      have hxl := HLT.out x hxm
      have HX := mkHid hx
      clear hb hx hxm d0w
      go_wp2_with fail
      refine (l5Skip_calls g x _ _ (HK.out.next HB.out) HG.out hxl).mono ?_
      rintro e w1 ⟨rfl, hb1⟩
      have HB1 : Hid (Below w.heap.size w w1) := HB.out.trans (hb1.mono HB.out.size)
      have HS1 : Hid (Stk w1 w.heap.size ((rs.take k).map (skipN g)) (.slice adp k capp)) := HS.out.next hb1
      have hzw := HB1.out.size
      obtain ⟨m, hm⟩ : ∃ m, m = skipN g x := ⟨_, rfl⟩
      have HM := mkHid hm
      rw [← hm]
      have HS3 : Hid (Stk (w1.alloc (.cells #[.int .i64 (m : Int)] 3)) w.heap.size ((rs.take k).map (skipN g)) (.slice adp k capp)) := HS1.out.alloc _
      have HK3 : Hid (IIn (w1.alloc (.cells #[.int .i64 (m : Int)] 3)) [(m : Int)] (.slice (some ⟨w1.heap.size, 0, none⟩) 1 1)) := one_in w1 m
      have HLO : Hid (w.heap.size ≤ (w1.alloc (.cells #[.int .i64 (m : Int)] 3)).heap.size) := by rw [Hid, Deep.nblk_alloc]; omega
      clear hb1 d0 hm
      go_wp2_with (at_builtin; go_must (refine wpList_push rfl _ _ rfl _ w.heap.size ((rs.take k).map (skipN g)) [m] (.slice adp k capp) (.slice (some ⟨w1.heap.size, 0, none⟩) 1 1) rfl HS3.out rfl HK3.out rfl HLO.out (by rw [HJL.out]; simp; have := H20.out; omega) ?_); go_must (intro v' w5 hst5 hg5); go_must (have HS5 := mkHid hst5); go_must (have HB5 : Hid (Below w.heap.size w w5) := push_below HS3.out (HB1.out.alloc hzw _) (Nat.le_refl _) hg5 (Nat.le_refl _)); clear hst5 hg5)
      have HS6 : Hid (Stk w5 w.heap.size ((rs.take (k + 1)).map (skipN g)) v') := by
        rw [Hid, take_snoc HX.out, List.map_append, List.map_singleton, ← HM.out]; exact HS5.out
      go_roundw
      case rel => first | exact ⟨k + 1, by omega, by go_num, HS6.out, HB5.out⟩ | ((repeat apply Exists.intro); exact ⟨⟨k + 1, by omega, by go_num, HS6.out, HB5.out⟩, rfl⟩)
      case measure => simp [intOf]; omega
    · have hke : k = rs.length := by omega
      have HV : Hid (IIn wr (plI (rs.map (skipN g))) (.slice adp k capp)) := by
        have h := HS.out
        rw [hke, List.take_length] at h
        rw [hke]; exact h.pin
      clear hb hke
      go_wp2_with fail
      refine (l5Short_calls g _ _ (HK.out.next HB.out) HG.out).mono ?_
      rintro e w1 ⟨gv, rfl, ho, hb1⟩
      have HB1 : Hid (Below w.heap.size w w1) := HB.out.trans (hb1.mono HB.out.size)
      have HV1 := mkHid (HV.out.next hb1)
      have HO := mkHid (ho.cin fun k h _ => h)
      clear ho hb1
      go_wp2_with fail
      refine (l5Copy_calls (shortG g) (rs.map (skipN g)) _ _ _ HO.out HV1.out (shortG_valid HG.out) (fun x hx => ?_) (by rw [List.length_map]; exact H20.out)).mono ?_
      · simp only [List.mem_map] at hx
        obtain ⟨a, ha, rfl⟩ := hx
        rw [shortG_len]
        exact skip_lt HG.out (HLT.out a ha)
      rintro e w2 ⟨gv2, tv2, rfl, ho, hs, hb2⟩
      have HB2 : Hid (Below w.heap.size w w2) := HB1.out.trans (hb2.mono HB1.out.size)
      have HO2 := mkHid (ho.lower HB1.out.size (S' := fun b => w.heap.size ≤ b) fun b hb => Nat.le_trans HB1.out.size hb)
      have HS2 := mkHid (hs.lower HB1.out.size)
      clear ho hs hb2
      go_wp2_with fail
      go_ret2
      exact ⟨_, _, rfl, HO2.out, HS2.out, HB2.out⟩

set_option maxHeartbeats 800000 in
theorem specColl_calls (g : List Ce) (rs : List Int) (v rv : Value) (w : World) (hk : CIn w g v) (hr : IIn w rs rv) :
    Calls Try.prog 21 #[v, rv] w (GotGI (collO g rs) (rootB g rs) w) := by
  have HK : Hid (CIn w g v) := hk
  have HR : Hid (IIn w rs rv) := hr
  clear hk hr
  go_enter Try.func21, Try.ntmps21
  go_wp2_with fail
  refine (l5Right_calls g rs _ _ _ HK.out HR.out).mono ?_
  rintro e w1 ⟨rfl, hb1⟩
  have HB1 : Hid (Below w.heap.size w w1) := hb1
  clear hb1
  cases hg : rootB g rs with
  | false =>
    have HV := mkHid (collO_no hg)
    have HT := mkHid hg
    clear hg
    go_wp2_with fail
    go_ret3
    rw [HV.out, HT.out]
    exact ⟨_, _, rfl, cin_nil _ _ 0 (by simp [maxLen]), iin_nil _ _ 0 (by simp [maxLen]), (HB1.out.alloc HB1.out.size _).alloc (by rw [Deep.nblk_alloc]; have := HB1.out.size; omega) _⟩
  | true =>
    have HT := mkHid hg
    have HV := mkHid (collO_yes hg)
    have HR2 : Hid (IIn w1 (plI (natL rs)) rv) := by
      have h := HR.out.next HB1.out
      rw [root_back hg] at h
      exact h
    clear hg
    go_wp2_with fail
    refine (l5Collect_calls g (natL rs) _ _ _ (HK.out.next HB1.out) HR2.out (rootB_iff.1 HT.out).1 (root_lt HT.out) (by rw [natL_len]; exact (rootB_iff.1 HT.out).2.1)).mono ?_
    rintro e w2 ⟨gv, tv, rfl, ho, hs, hb2⟩
    have HO := mkHid (ho.cin fun k h _ => h)
    have HS := mkHid hs.pin
    have HB2 : Hid (Below w.heap.size w w2) := HB1.out.trans (hb2.mono HB1.out.size)
    clear ho hs hb2
    go_wp2_with fail
    go_ret3
    rw [HV.out, HT.out]
    exact ⟨_, _, rfl, HO.out, HS.out, HB2.out⟩
end Go.Proofs.Ytjpjikfmdaejeaa
/-
  THE CELLS OF A COPIER: the first ones are scanned, the others still have the operands of the old space.
-/
namespace Go.Proofs.Ytjpjikfmdaejeaa
set_option linter.unusedVariables false
set_option linter.unusedSimpArgs false
open Go.RowKit

/-- all blocks but those of a set are as they were -/
structure ButP (U : Nat → Prop) (w w' : World) : Prop where
  os : w'.os = w.os
  tape : w'.tape = w.tape
  output : w'.output = w.output
  size : w.heap.size ≤ w'.heap.size
  block : ∀ k, k < w.heap.size → ¬ U k → w'.heap[k]? = w.heap[k]?
theorem ButP.refl (U : Nat → Prop) (w : World) : ButP U w w := ⟨rfl, rfl, rfl, Nat.le_refl _, fun _ _ _ => rfl⟩
theorem ButP.trans {U V : Nat → Prop} {a c d : World} (h : ButP U a c) (k : ButP V c d) (hV : ∀ x, V x → x < a.heap.size → U x) : ButP U a d :=
  ⟨k.os.trans h.os, k.tape.trans h.tape, k.output.trans h.output, Nat.le_trans h.size k.size, fun i hi hb => (k.block i (Nat.lt_of_lt_of_le hi h.size) (fun e => hb (hV i e hi))).trans (h.block i hi hb)⟩
theorem ButP.mono {U V : Nat → Prop} {w w' : World} (h : ButP U w w') (hs : ∀ k, U k → k < w.heap.size → V k) : ButP V w w' := ⟨h.os, h.tape, h.output, h.size, fun k hk hb => h.block k hk fun e => hb (hs k e hk)⟩
theorem ButP.of_below {U : Nat → Prop} {w w' : World} (h : Below w.heap.size w w') : ButP U w w' := ⟨h.os, h.tape, h.output, h.size, fun k hk _ => h.block k hk⟩
theorem ButP.below {U : Nat → Prop} {lo : Nat} {w w' : World} (h : ButP U w w') (hU : ∀ k, U k → lo ≤ k) (hl : lo ≤ w.heap.size) : Below lo w w' := ⟨h.os, h.tape, h.output, h.size, fun k hk => h.block k (Nat.lt_of_lt_of_le hk hl) fun e => by have := hU k e; omega⟩
theorem ButP.of_grown {U : Nat → Prop} {w w' : World} {r : Option Nat} (h : w.grownBy w' r) (hU : ∀ k, some k = r → U k) : ButP U w w' := ⟨h.os, h.tape, h.output, h.size, fun k hk hb => h.block k hk fun e => hb (hU k e)⟩
theorem ButP.of_set {U : Nat → Prop} {w : World} {a : Addr} {u : Value} (hU : U a.block) : ButP U w (w.setCell a u) := ⟨rfl, rfl, rfl, by rw [size_setCell]; exact Nat.le_refl _, fun k hk hb => Below.heap_setCell _ _ _ _ fun e => hb (by rw [e]; exact hU)⟩

theorem own_uniq {w : World} {lo lo' n s : Nat} {T : TypeId} {v : Value} {xs ys : List Value} (h : w.ownsRow lo T s v n xs) (h' : w.ownsRow lo' T s v n ys) : xs = ys := by
  have a1 := h.1
  have a2 := h'.1
  rcases h.2 with ⟨rfl, h0⟩ | ⟨b, cap, cur, rfl, hg, hh, hn', hc', hs', htk⟩
  · rw [h0] at a1 a2
    rw [List.eq_nil_of_length_eq_zero (by omega : xs.length = 0), List.eq_nil_of_length_eq_zero (by omega : ys.length = 0)]
  · rcases h'.2 with ⟨e, -⟩ | ⟨b2, cap2, cur2, e, -, hh2, -, -, -, htk2⟩
    · cases e
    · cases e
      rw [hh] at hh2
      cases hh2
      rw [← htk, ← htk2]
/-- a row of cells is no row of ints -/
theorem cellrow_ne {w : World} {lo n : Nat} {v : Value} {xs : List Value} (h : w.ownsRow lo 45 3 v n xs) {C : Array Value} {k : Nat} (hC : w.heap[k]? = some (.cells C 3 (0, 0))) : some k ≠ v.ownBlock := by
  intro e
  rcases h.2 with ⟨rfl, -⟩ | ⟨b2, cap, cur, rfl, -, hh, -⟩
  · simp [Value.ownBlock] at e
  · simp only [Value.ownBlock, Option.some.injEq] at e
    subst e
    rw [hh] at hC
    simp at hC

/-- the operands of copy j, in the row blk once it is scanned -/
def CpK (w : World) (lo : Nat) (S : Nat → Prop) (g : List Ce) (o : List Nat) (i j blk : Nat) (kv : Value) : Prop :=
  (j < i → KRowS w S ((kidsN g (o.getD j 0)).map fun k => (posN o k : Int)) blk kv) ∧ (¬ j < i → IntsOn w (Lt lo) (plI (kidsN g (o.getD j 0))) kv)
/-- the copies of the cells o, the first i of them scanned -/
def CpG (w : World) (lo : Nat) (S : Nat → Prop) (g : List Ce) (o : List Nat) (i : Nat) (v : Value) : Prop :=
  ∃ (xs : List Value) (kb : Nat → Nat), w.ownsRow lo 45 3 v o.length xs ∧
    (∀ j, j < o.length → I64 (opAt g (o.getD j 0)) ∧ I64 (numAt g (o.getD j 0)) ∧ ∃ kv, xs[j * 3]? = some (.int .i64 (opAt g (o.getD j 0))) ∧ xs[j * 3 + 1]? = some (.int .i64 (numAt g (o.getD j 0))) ∧ xs[j * 3 + 2]? = some kv ∧ CpK w lo S g o i j (kb j) kv) ∧
    ∀ a b, a < i → b < i → a < o.length → b < o.length → a ≠ b → kidsN g (o.getD a 0) ≠ [] → kidsN g (o.getD b 0) ≠ [] → kb a ≠ kb b
theorem CpG.nil (w : World) (lo : Nat) (S : Nat → Prop) (g : List Ce) : CpG w lo S g [] 0 (.slice none 0 0) :=
  ⟨[], fun _ => 0, World.ownsRow_nil w lo _ _, fun j hj => absurd hj (by simp), fun a b ha => absurd ha (by omega)⟩
theorem CpG.row {w : World} {lo : Nat} {S : Nat → Prop} {g : List Ce} {o : List Nat} {i : Nat} {v : Value} (h : CpG w lo S g o i v) : ∃ xs, w.ownsRow lo 45 3 v o.length xs := by
  obtain ⟨xs, kb, h1, -⟩ := h; exact ⟨xs, h1⟩
theorem CpG.form {w : World} {lo : Nat} {S : Nat → Prop} {g : List Ce} {o : List Nat} {i : Nat} {v : Value} (h : CpG w lo S g o i v) : ∃ ad cap, v = .slice ad o.length cap := by
  obtain ⟨xs, h1⟩ := h.row
  rcases h1.2 with ⟨rfl, h0⟩ | ⟨b, cap, cur, rfl, -⟩
  · exact ⟨none, 0, by rw [h0]⟩
  · exact ⟨_, _, rfl⟩
theorem CpK.keep {w w' : World} {lo : Nat} {S S' : Nat → Prop} {g : List Ce} {o o' : List Nat} {i j blk : Nat} {kv : Value} (h : CpK w lo S g o i j blk kv) (hS : ∀ k, S k → k < w.heap.size → S' k) (hb : ∀ k C, S k → k < w.heap.size → w.heap[k]? = some (.cells C 3 (0, 0)) → w'.heap[k]? = w.heap[k]?) (hl : ∀ k, k < lo → w'.heap[k]? = w.heap[k]?)
    (ho : o'.getD j 0 = o.getD j 0) (hp : j < i → ∀ k ∈ kidsN g (o.getD j 0), posN o' k = posN o k) : CpK w' lo S' g o' i j blk kv := by
  refine ⟨fun hj => ?_, fun hj => ?_⟩
  · rw [ho]
    have e : (kidsN g (o.getD j 0)).map (fun k => (posN o' k : Int)) = (kidsN g (o.getD j 0)).map (fun k => (posN o k : Int)) := List.map_congr_left fun k hk => by rw [hp hj k hk]
    rw [e]
    exact (h.1 hj).keep hS fun C h1 h2 h3 => hb _ C h1 h2 h3
  · rw [ho]
    exact (h.2 hj).mono (fun _ hk => hk) fun k hk => hl k hk
theorem CpG.next {w w' : World} {lo : Nat} {S S' : Nat → Prop} {g : List Ce} {o : List Nat} {i : Nat} {v : Value} (h : CpG w lo S g o i v) (hS : ∀ k, S k → k < w.heap.size → S' k) (hr : ∀ k, some k = v.ownBlock → k < w.heap.size → w'.heap[k]? = w.heap[k]?) (hb : ∀ k C, S k → k < w.heap.size → w.heap[k]? = some (.cells C 3 (0, 0)) → w'.heap[k]? = w.heap[k]?) (hl : ∀ k, k < lo → w'.heap[k]? = w.heap[k]?) : CpG w' lo S' g o i v := by
  obtain ⟨xs, kb, h1, h2, h3⟩ := h
  refine ⟨xs, kb, ⟨h1.1, ?_⟩, fun j hj => ?_, h3⟩
  · rcases h1.2 with h | ⟨b, cap, cur, rfl, hg, hh, r⟩
    · exact Or.inl h
    · exact Or.inr ⟨b, cap, cur, rfl, hg, (hr b rfl (Array.getElem?_eq_some_iff.1 hh).1).trans hh, r⟩
  · obtain ⟨i1, i2, kv, e0, e1, e2, e3⟩ := h2 j hj
    exact ⟨i1, i2, kv, e0, e1, e2, e3.keep hS hb hl rfl fun _ _ _ => rfl⟩
theorem getD_snoc {o : List Nat} {a j : Nat} (h : j < o.length) : (o ++ [a]).getD j 0 = o.getD j 0 := by
  rw [List.getD_eq_getElem?_getD, List.getD_eq_getElem?_getD, List.getElem?_append_left h]
theorem getD_last (o : List Nat) (a : Nat) : (o ++ [a]).getD o.length 0 = a := by simp
/-- one copy more -/
theorem CpG.grow {w w' : World} {lo : Nat} {S : Nat → Prop} {g : List Ce} {o : List Nat} {i a : Nat} {v v' kv : Value} {xs : List Value} (h : CpG w lo S g o i v) (hi : i ≤ o.length) (hcl : ∀ j, j < i → ∀ k ∈ kidsN g (o.getD j 0), k ∈ o)
    (h64 : I64 (opAt g a) ∧ I64 (numAt g a)) (hk : IntsOn w' (Lt lo) (plI (kidsN g a)) kv) (hx : w.ownsRow lo 45 3 v o.length xs) (hown : w'.ownsRow lo 45 3 v' (o.length + 1) (xs ++ [.int .i64 (opAt g a), .int .i64 (numAt g a), kv]))
    (hb : ∀ k C, S k → k < w.heap.size → w.heap[k]? = some (.cells C 3 (0, 0)) → w'.heap[k]? = w.heap[k]?) (hl : ∀ k, k < lo → w'.heap[k]? = w.heap[k]?) : CpG w' lo S g (o ++ [a]) i v' := by
  obtain ⟨xs2, kb, h1, h2, h3⟩ := h
  obtain rfl := own_uniq hx h1
  have hlen := hx.1
  refine ⟨xs ++ [.int .i64 (opAt g a), .int .i64 (numAt g a), kv], kb, by simpa using hown, fun j hj => ?_, fun x y hx1 hy1 _ _ hne ex ey => ?_⟩
  · by_cases hjl : j < o.length
    · obtain ⟨i1, i2, kv', e0, e1, e2, e3⟩ := h2 j hjl
      rw [getD_snoc hjl]
      refine ⟨i1, i2, kv', ?_, ?_, ?_, ?_⟩
      · rw [List.getElem?_append_left (by omega)]; exact e0
      · rw [List.getElem?_append_left (by omega)]; exact e1
      · rw [List.getElem?_append_left (by omega)]; exact e2
      · exact e3.keep (fun _ h _ => h) hb hl (getD_snoc hjl) fun hji k hk => posN_app _ _ _ (hcl j hji k hk)
    · have hj' : j = o.length := by simp at hj; omega
      subst hj'
      rw [getD_last]
      refine ⟨h64.1, h64.2, kv, ?_, ?_, ?_, fun hj => absurd hj (by omega), fun _ => by rw [getD_last]; exact hk⟩
      · rw [List.getElem?_append_right (by omega)]; simp [hlen]
      · rw [List.getElem?_append_right (by omega)]; simp [hlen]
      · rw [List.getElem?_append_right (by omega)]; simp [hlen]
  · rw [getD_snoc (by omega)] at ex ey
    exact h3 x y hx1 hy1 (by omega) (by omega) hne ex ey
/-- copy i is scanned -/
theorem CpG.scan {w : World} {lo : Nat} {S : Nat → Prop} {g : List Ce} {o : List Nat} {i b cap blk : Nat} {kv : Value} (h : CpG w lo S g o i (.slice (some ⟨b, 0, none⟩) o.length cap)) (hi : i < o.length)
    (hk : KRowS w (fun x => x = blk) ((kidsN g (o.getD i 0)).map fun k => (posN o k : Int)) blk kv) (hS : ¬ S blk) : CpG (w.setCell ⟨b, i * 3 + 2, none⟩ kv) lo (fun x => S x ∨ x = blk) g o (i + 1) (.slice (some ⟨b, 0, none⟩) o.length cap) := by
  obtain ⟨xs, kb, h1, h2, h3⟩ := h
  have hx1 := (h1.stored (i * 3 + 2) kv).1
  have hlen := h1.1
  have hbl : lo ≤ b := own_block h1 rfl
  have keep : ∀ (k : Nat) (C : Array Value), w.heap[k]? = some (.cells C 3 (0, 0)) → (w.setCell ⟨b, i * 3 + 2, none⟩ kv).heap[k]? = w.heap[k]? := fun k C hC => Below.heap_setCell _ _ _ _ fun e => cellrow_ne h1 hC (by simp only [Value.ownBlock, Option.some.injEq]; exact e)
  have keepl : ∀ k, k < lo → (w.setCell ⟨b, i * 3 + 2, none⟩ kv).heap[k]? = w.heap[k]? := fun k hk => Below.heap_setCell _ _ _ _ (by show k ≠ b; omega)
  refine ⟨xs.set (i * 3 + 2) kv, fun j => if j = i then blk else kb j, hx1, fun j hj => ?_, fun x y hx1 hy1 hxl hyl hne ex ey => ?_⟩
  · obtain ⟨i1, i2, kv', e0, e1, e2, e3⟩ := h2 j hj
    by_cases hji : j = i
    · subst hji
      refine ⟨i1, i2, kv, ?_, ?_, ?_, fun _ => ?_, fun hn => absurd hn (by omega)⟩
      · rw [List.getElem?_set_ne (by omega)]; exact e0
      · rw [List.getElem?_set_ne (by omega)]; exact e1
      · rw [List.getElem?_set_self (by omega)]
      · simp only [if_pos]
        exact hk.keep (fun k hk _ => Or.inr hk) fun C _ _ hC => keep _ C hC
    · refine ⟨i1, i2, kv', ?_, ?_, ?_, ?_⟩
      · rw [List.getElem?_set_ne (by omega)]; exact e0
      · rw [List.getElem?_set_ne (by omega)]; exact e1
      · rw [List.getElem?_set_ne (by omega)]; exact e2
      · simp only [if_neg hji]
        have h4 : CpK (w.setCell ⟨b, i * 3 + 2, none⟩ kv) lo (fun x => S x ∨ x = blk) g o i j (kb j) kv' := e3.keep (fun k hk _ => Or.inl hk) (fun k C _ _ hC => keep k C hC) keepl rfl fun _ _ _ => rfl
        exact ⟨fun hj => h4.1 (by omega), fun hj => h4.2 (by omega)⟩
  · have ne : ∀ q, q < i → q < o.length → kidsN g (o.getD q 0) ≠ [] → kb q ≠ blk := by
      intro q hq hql hne e
      obtain ⟨-, -, kv', -, -, -, e3⟩ := h2 q hql
      obtain ⟨_, _, _, _, _, h5⟩ := e3.1 hq
      rcases h5 with h5 | ⟨f5, -, h6, -⟩
      · exact hne (by simpa using h5)
      · exact hS (e ▸ h6)
    by_cases hxi : x = i
    · have hyi : ¬ y = i := by omega
      simp only [if_pos hxi, if_neg hyi]
      exact (ne y (by omega) hyl ey).symm
    · by_cases hyi : y = i
      · simp only [if_neg hxi, if_pos hyi]
        exact ne x (by omega) hxl ex
      · simp only [if_neg hxi, if_neg hyi]
        exact h3 x y (by omega) (by omega) hxl hyl hne ex ey
/-- all are scanned -/
theorem CpG.done {w : World} {lo : Nat} {S : Nat → Prop} {g : List Ce} {o : List Nat} {i : Nat} {v : Value} (h : CpG w lo S g o i v) (hi : o.length ≤ i) : OwnC w lo S (o.map (cpCell g o)) v := by
  obtain ⟨xs, kb, h1, h2, h3⟩ := h
  have hat : ∀ j (hj : j < (o.map (cpCell g o)).length), (o.map (cpCell g o))[j] = cpCell g o (o.getD j 0) := fun j hj => by
    rw [List.length_map] at hj
    rw [List.getElem_map, getD_at _ _ _ hj]
  refine ⟨fun j hj => ?_, xs, kb, by rw [List.length_map]; exact h1, fun j hj => ?_, fun a b ha hb hne ea eb => ?_⟩
  · rw [hat j hj]
    rw [List.length_map] at hj
    obtain ⟨i1, i2, -⟩ := h2 j hj
    exact ⟨i1, i2⟩
  · rw [hat j hj]
    rw [List.length_map] at hj
    obtain ⟨i1, i2, kv, e0, e1, e2, e3⟩ := h2 j hj
    exact ⟨kv, e0, e1, e2, e3.1 (by omega)⟩
  · rw [hat a ha] at ea
    rw [hat b hb] at eb
    rw [List.length_map] at ha hb
    exact h3 a b (by omega) (by omega) ha hb hne (by simpa [cpCell] using ea) (by simpa [cpCell] using eb)
end Go.Proofs.Ytjpjikfmdaejeaa
/-
  A MAP FROM PLACES TO PLACES: the places of a list.
-/
namespace Go.Proofs.Ytjpjikfmdaejeaa
set_option linter.unusedVariables false
set_option linter.unusedSimpArgs false
open Go.RowKit Go.Maps

theorem keyedI : Keyed Try.prog 3 := int_keyed Try.underlying3
theorem zeroI (w : World) : (zeroValue 3).run Try.prog w = .ok (.int .i64 0) w := by kernel_rfl
theorem litI_wf (x : Nat) (h : x ≤ 1048576) : (Lit.int .i64 (x : Int)).wf = true := by
  simp only [Lit.wf, IntKind.min, IntKind.max, IntKind.signed, IntKind.bits, Bool.and_eq_true, decide_eq_true_eq, if_true]
  omega
theorem litI_ne {a b : Nat} (h : a ≠ b) : Lit.int .i64 (a : Int) ≠ Lit.int .i64 (b : Int) := by
  intro e
  simp only [Lit.int.injEq] at e
  omega
/-- block M is a map that holds the place of each cell of a list, and nothing else -/
def MapN (w : World) (M : Nat) (o : List Nat) : Prop :=
  ∃ (n : Nat) (D : DataW Unit), w.ownsMap Try.prog 3 (plainElem Try.prog 3) M n D ∧ n ≤ o.length ∧ ∀ x : Nat, x ≤ 1048576 → has D (.int .i64 (x : Int)) = memB o x ∧ (x ∈ o → D.atKey (.int .i64 (x : Int)) (.lit (.int .i64 0)) = .lit (.int .i64 (posN o x : Int)))
theorem MapN.made (w : World) : MapN (w.alloc (.map #[] 0)) w.heap.size [] := ⟨0, _, World.ownsMap_made w _ _ _, Nat.le_refl _, fun x _ => ⟨by simp [has, memB], fun h => by simp at h⟩⟩
theorem MapN.lt {w : World} {M : Nat} {o : List Nat} (h : MapN w M o) : M < w.heap.size := by obtain ⟨n, D, h1, -⟩ := h; exact h1.lt
theorem MapN.of_block {w w' : World} {M : Nat} {o : List Nat} (h : MapN w M o) (hb : w'.heap[M]? = w.heap[M]?) : MapN w' M o := by
  obtain ⟨n, D, ⟨es, clock, h1, h2⟩, h3⟩ := h
  exact ⟨n, D, ⟨es, clock, hb.trans h1, h2⟩, h3⟩
/-- it is no row -/
theorem MapN.ne_row {w : World} {M : Nat} {o : List Nat} (h : MapN w M o) {b : Nat} {C : Array Value} {T : TypeId} (hb : w.heap[b]? = some (.cells C T)) : b ≠ M := by
  intro e
  subst e
  obtain ⟨n, D, ⟨es, clock, h1, h2⟩, h3⟩ := h
  rw [h1] at hb
  cases hb
theorem keyLitI (x : Nat) : WideAt.IsKeyLit (Lit.int .i64 (x : Int)) := by simp [WideAt.IsKeyLit]
theorem mapN_put {w : World} {M n : Nat} {o : List Nat} {D : DataW Unit} {x : Nat} (h : w.ownsMap Try.prog 3 (plainElem Try.prog 3) M (n + 1) (D.put (.int .i64 (x : Int)) (.lit (.int .i64 (o.length : Int))))) (hm : IsMap D) (hn : n ≤ o.length)
    (hs : ∀ x : Nat, x ≤ 1048576 → has D (.int .i64 (x : Int)) = memB o x ∧ (x ∈ o → D.atKey (.int .i64 (x : Int)) (.lit (.int .i64 0)) = .lit (.int .i64 (posN o x : Int)))) (hx : x ∉ o) : MapN w M (o ++ [x]) := by
  refine ⟨n + 1, _, h, by simp; omega, fun y hy => ?_⟩
  by_cases e : y = x
  · subst e
    refine ⟨?_, fun _ => ?_⟩
    · rw [has_put_same hm (keyLitI y)]; simp [memB]
    · rw [atKey_put_same hm (keyLitI y), posN_snoc o y hx]
  · have hne : Lit.int .i64 (y : Int) ≠ Lit.int .i64 (x : Int) := litI_ne e
    refine ⟨?_, fun hy2 => ?_⟩
    · rw [has_put_other hne, (hs y hy).1]; simp [memB, e]
    · have hyo : y ∈ o := by
        rcases List.mem_append.1 hy2 with h | h
        · exact h
        · exact absurd (by simpa using h) e
      rw [atKey_put_other hne, (hs y hy).2 hyo, posN_app _ _ _ hyo]
end Go.Proofs.Ytjpjikfmdaejeaa
/-
  THE PROGRAM's arena, wherever it lies: one cell more.
-/
namespace Go.Proofs.Ytjpjikfmdaejeaa
set_option linter.unusedVariables false
set_option linter.unusedSimpArgs false
open Go.RowKit

theorem row_ne_cells {w : World} {A lo n : Nat} {T : TypeId} {CC : Array Value} {gv : Value} {xs : List Value} (hT : T ≠ 45) (hA : w.heap[A]? = some (.cells CC T)) (hx : w.ownsRow lo 45 3 gv n xs) : some A ≠ gv.ownBlock := by
  intro e
  rcases hx.2 with ⟨rfl, -⟩ | ⟨b, cap, cur, rfl, -, hh, -⟩
  · simp [Value.ownBlock] at e
  · simp only [Value.ownBlock, Option.some.injEq] at e
    subst e
    rw [hh] at hA
    simp only [Option.some.injEq, Obj.cells.injEq] at hA
    exact hT hA.2.1.symm
theorem grown_drew {w w5 : World} {b : Option Nat} (h : w.drew.grownBy w5 b) : w.grownBy w5 b := ⟨h.os, h.tape, h.output, h.size, h.block⟩
theorem arp_keep {w w5 : World} {A lo n : Nat} {T : TypeId} {CC : Array Value} {gv : Value} {xs : List Value} {o1 o2 : Obj} (hT : T ≠ 45) (hA : w.heap[A]? = some (.cells CC T)) (hx : w.ownsRow lo 45 3 gv n xs) (hg : ((w.alloc o1).alloc o2).grownBy w5 gv.ownBlock) : w5.heap[A]? = some (.cells CC T) := by
  have hl : A < w.heap.size := (Array.getElem?_eq_some_iff.1 hA).1
  exact ((hg.block A (by rw [Deep.nblk_alloc, Deep.nblk_alloc]; omega) (row_ne_cells hT hA hx)).trans ((Deep.blk_alloc_lt _ _ _ (by rw [Deep.nblk_alloc]; omega)).trans (Deep.blk_alloc_lt _ _ _ hl))).trans hA

/-- what add hands back: the cell's place; its row is the arena's -/
def AddedP (A q lo n : Nat) (o m : Int) (gv kv : Value) (xs : List Value) (w : World) (e : Ending) (w' : World) : Prop :=
  ∃ v' w5, e = .returned (.int .i64 (n : Int)) ∧ w5.ownsRow lo 45 3 v' (n + 1) (xs ++ [.int .i64 o, .int .i64 m, kv]) ∧ ((w.alloc (.cells #[.int .i64 o, .int .i64 m, kv] 45)).alloc (.cells #[.int .i64 o, .int .i64 m, kv] 45)).grownBy w5 gv.ownBlock ∧ (v'.ownBlock = gv.ownBlock ∨ ∃ g, v'.ownBlock = some g ∧ ((w.alloc (.cells #[.int .i64 o, .int .i64 m, kv] 45)).alloc (.cells #[.int .i64 o, .int .i64 m, kv] 45)).heap.size ≤ g) ∧ w' = w5.setCell ⟨A, q, none⟩ v'

set_option maxRecDepth 100000 in
set_option maxHeartbeats 1600000 in
theorem addP_calls (A q : Nat) (T : TypeId) (CC : Array Value) (hT : T ≠ 45) (lo n : Nat) (o m : Int) (gv : Value) (adk : Option Addr) (nk ck : Nat) (xs : List Value) (w : World) (hA : w.heap[A]? = some (.cells CC T)) (hq : CC[q]? = some gv) (hx : w.ownsRow lo 45 3 gv n xs) (hlo : lo ≤ w.heap.size) (hn : n ≤ 500000) :
    Calls Try.prog 53 #[.pointer (some ⟨A, q, none⟩), .agg #[.int .i64 o, .int .i64 m, .slice adk nk ck]] w (AddedP A q lo n o m gv (.slice adk nk ck) xs w) := by
  have HA : Hid (w.heap[A]? = some (.cells CC T)) := hA
  have HX : Hid (w.ownsRow lo 45 3 gv n xs) := hx
  have a0 := cell_of_blk hA q _ hq
  have af := frz_of_blk hA q
  obtain ⟨ad, cap, rfl⟩ : ∃ ad cap, gv = .slice ad n cap := by
    rcases hx.2 with ⟨rfl, h0⟩ | ⟨b, cap, cur, rfl, -⟩
    · exact ⟨none, 0, by rw [h0]⟩
    · exact ⟨_, _, rfl⟩
  have HQ := mkHid hq
  clear hA hx hq
  go_enter Try.func53, Try.ntmps53
  have p0 := old_cell a0 (.cells #[.int .i64 o, .int .i64 m, .slice adk nk ck] 45)
  have p1 := old_cell p0 (.cells #[.int .i64 o, .int .i64 m, .slice adk nk ck] 45)
  have b0 := box_cell w #[.int .i64 o, .int .i64 m, .slice adk nk ck] 45 0 _ rfl
  have b1 := box_cell w #[.int .i64 o, .int .i64 m, .slice adk nk ck] 45 1 _ rfl
  have b2 := box_cell w #[.int .i64 o, .int .i64 m, .slice adk nk ck] 45 2 _ rfl
  obtain ⟨iC, zC, hII⟩ := infoC1
  have HII : Hid (Try.prog.info? 45 = some iC ∧ iC.zero = some zC ∧ iC.size = 3 ∧ iC.bytes = 40 ∧ zC.cells.size = 3) := hII
  have HX2 : Hid (((w.alloc (.cells #[.int .i64 o, .int .i64 m, .slice adk nk ck] 45)).alloc (.cells #[.int .i64 o, .int .i64 m, .slice adk nk ck] 45)).drew.ownsRow lo 45 3 (.slice ad n cap) n xs) := own_keep (own_keep (own_keep HX.out (fun k _ hk => Deep.blk_alloc_lt _ _ _ hk)) (fun k _ hk => Deep.blk_alloc_lt _ _ _ hk)) (fun _ _ _ => rfl)
  clear hII
  go_wp2_with fail
  go_region_law (refine step_append_where rfl (.tmp 9) (.tmp 11) 25 rfl lo 45 iC zC 3 40 Try.underlying25 HII.out.1 HII.out.2.1 HII.out.2.2.1 HII.out.2.2.2.1 HII.out.2.2.2.2 (by decide) (.slice ad n cap) n xs (by simp [Act.eval, Act.put]) HX2.out ⟨w.heap.size + 1, 0, none⟩ 1 1 [.int .i64 o, .int .i64 m, .slice adk nk ck] (by simp [Act.eval, Act.put]) rfl (by have h := news3c (w.alloc (.cells #[.int .i64 o, .int .i64 m, .slice adk nk ck] 45)) (.int .i64 o) (.int .i64 m) (.slice adk nk ck); rw [Deep.nblk_alloc] at h; exact h) (by simp [Value.oneCell']) (by unfold maxLen; omega) (by omega) (by show lo ≤ ((w.alloc _).alloc _).heap.size; simp only [Deep.nblk_alloc]; omega) (by omega) ?_; intro v' w5 hown hg0 hw; have hg := grown_drew hg0; clear hg0; obtain ⟨g', c', rfl, -, -, -, -⟩ := own_form hown (by omega); have s2 := cell_of_blk (arp_keep hT HA.out HX.out hg) q _ HQ.out; have sf := frz_of_blk (arp_keep hT HA.out HX.out hg) q)
  all_goals
    have hn0 : ¬ ((n : Int) + 1 - 1 < 0) := by omega
    have h64 : IntKind.i64.wrap ((n : Int) + 1 - 1) = (n : Int) := by rw [show (n : Int) + 1 - 1 = (n : Int) by omega]; exact IntWalk.i64_in _ (by omega)
    go_wp2_with fail
    go_ret
    exact ⟨_, w5, rfl, hown, hg, hw, rfl⟩
end Go.Proofs.Ytjpjikfmdaejeaa
/-
  THE PROGRAM's copier IN MEMORY; one cell more.
-/
namespace Go.Proofs.Ytjpjikfmdaejeaa
set_option linter.unusedVariables false
set_option linter.unusedSimpArgs false
open Go.RowKit

/-- a copier in block C, its map in block M; its blocks are of U; the old space lies below lo -/
structure CopW (C M lo : Nat) (g : List Ce) (fv : Value) (o : List Nat) (i : Nat) (U : Nat → Prop) (gv ov : Value) (w : World) : Prop where
  box : w.heap[C]? = some (.cells #[fv, gv, .map (some M), ov] 54)
  cells : CpG w lo (fun k => U k ∧ some k ≠ ov.ownBlock) g o i gv
  order : Stk w lo o ov
  map : MapN w M o
  gU : ∀ k, some k = gv.ownBlock → U k
  oU : ∀ k, some k = ov.ownBlock → U k
  cU : U C
  mU : U M
  cl : lo ≤ C
  ml : lo ≤ M
  src : CellsOn w (Lt lo) g fv
theorem copier_ne_int : (54 : TypeId) ≠ 3 := by decide
theorem copier_ne_cell : (54 : TypeId) ≠ 45 := by decide
theorem own_ne_cells {w : World} {lo n s : Nat} {T T' : TypeId} {v : Value} {xs CC : List Value} {b : Nat} {C : Array Value} (h : w.ownsRow lo T s v n xs) (hb : w.heap[b]? = some (.cells C T')) (hT : T' ≠ T) : some b ≠ v.ownBlock := by
  intro e
  rcases h.2 with ⟨rfl, -⟩ | ⟨g, cap, cur, rfl, -, hh, -⟩
  · simp [Value.ownBlock] at e
  · simp only [Value.ownBlock, Option.some.injEq] at e
    subst e
    rw [hh] at hb
    simp only [Option.some.injEq, Obj.cells.injEq] at hb
    exact hT hb.2.1.symm
theorem own_ne_map {w : World} {lo n s M : Nat} {T : TypeId} {v : Value} {xs : List Value} {o : List Nat} (h : w.ownsRow lo T s v n xs) (hM : MapN w M o) : some M ≠ v.ownBlock := by
  intro e
  rcases h.2 with ⟨rfl, -⟩ | ⟨g, cap, cur, rfl, -, hh, -⟩
  · simp [Value.ownBlock] at e
  · simp only [Value.ownBlock, Option.some.injEq] at e
    exact hM.ne_row hh e.symm
theorem CopW.lt {C M lo : Nat} {g : List Ce} {fv : Value} {o : List Nat} {i : Nat} {U : Nat → Prop} {gv ov : Value} {w : World} (h : CopW C M lo g fv o i U gv ov w) : C < w.heap.size := (Array.getElem?_eq_some_iff.1 h.box).1
theorem CopW.ne {C M lo : Nat} {g : List Ce} {fv : Value} {o : List Nat} {i : Nat} {U : Nat → Prop} {gv ov : Value} {w : World} (h : CopW C M lo g fv o i U gv ov w) : C ≠ M := h.map.ne_row h.box
/-- what add leaves -/
theorem CopW.add {C M lo : Nat} {g : List Ce} {fv : Value} {o : List Nat} {i a : Nat} {U : Nat → Prop} {gv ov kv : Value} {w w1 : World} {xs : List Value} {e : Ending} (h : CopW C M lo g fv o i U gv ov w) (hi : i ≤ o.length) (hcl : ∀ j, j < i → ∀ k ∈ kidsN g (o.getD j 0), k ∈ o)
    (h64 : I64 (opAt g a) ∧ I64 (numAt g a)) (hk : IntsOn w (Lt lo) (plI (kidsN g a)) kv) (hx : w.ownsRow lo 45 3 gv o.length xs) (he : AddedP C 1 lo o.length (opAt g a) (numAt g a) gv kv xs w.drew e w1) (hlo : lo ≤ w.heap.size) :
    e = .returned (.int .i64 (o.length : Int)) ∧ ∃ gv', w1.heap[C]? = some (.cells #[fv, gv', .map (some M), ov] 54) ∧ CpG w1 lo (fun k => U k ∧ some k ≠ ov.ownBlock) g (o ++ [a]) i gv' ∧ (∀ k, some k = gv'.ownBlock → some k = gv.ownBlock ∨ w.heap.size ≤ k) ∧ ButP (fun k => k = C ∨ some k = gv.ownBlock) w w1 := by
  obtain ⟨v', w5, rfl, hown, hg, hw, rfl⟩ := he
  have hCl := h.lt
  have k5 : ∀ k, k < w.heap.size → some k ≠ gv.ownBlock → w5.heap[k]? = w.heap[k]? := fun k hk hn => (hg.block k (by show k < ((w.drew.alloc _).alloc _).heap.size; rw [Deep.nblk_alloc, Deep.nblk_alloc]; show k < w.heap.size + 1 + 1; omega) hn).trans ((Deep.blk_alloc_lt _ _ _ (by rw [Deep.nblk_alloc]; show k < w.heap.size + 1; omega)).trans (Deep.blk_alloc_lt _ _ _ hk))
  have hs5 : w.heap.size + 2 ≤ w5.heap.size := by
    have h1 := hg.size
    rw [Deep.nblk_alloc, Deep.nblk_alloc] at h1
    have : w.drew.heap.size = w.heap.size := rfl
    omega
  have hCg : some C ≠ gv.ownBlock := own_ne_cells (CC := []) hx h.box copier_ne_cell
  have hC5 := (k5 C hCl hCg).trans h.box
  have hCv : some C ≠ v'.ownBlock := own_ne_cells (CC := []) hown hC5 copier_ne_cell
  have k6 : ∀ k, k < w.heap.size → some k ≠ gv.ownBlock → k ≠ C → (w5.setCell ⟨C, 1, none⟩ v').heap[k]? = w.heap[k]? := fun k hk hn hc => (Below.heap_setCell _ _ _ _ hc).trans (k5 k hk hn)
  have hlow : ∀ k, k < lo → (w5.setCell ⟨C, 1, none⟩ v').heap[k]? = w.heap[k]? := fun k hk => k6 k (by omega) (fun e => by have := own_block hx e; omega) (by have := h.cl; omega)
  refine ⟨rfl, v', ?_, ?_, ?_, ?_⟩
  · simp [World.setCell, Array.getElem?_modify, hC5]
  · refine h.cells.grow hi hcl h64 (hk.mono (fun _ h => h) fun k hk => hlow k hk) hx ?_ (fun k D hS hk hD => ?_) hlow
    · refine ⟨hown.1, ?_⟩
      rcases hown.2 with h' | ⟨b, cap, cur, rfl, hb, hh, r⟩
      · exact Or.inl h'
      · exact Or.inr ⟨b, cap, cur, rfl, hb, (Below.heap_setCell _ _ _ _ (fun e => hCv (by simp only [Value.ownBlock, Option.some.injEq]; exact e.symm))).trans hh, r⟩
    · refine k6 k hk (cellrow_ne hx hD) fun e => ?_
      subst e
      rw [h.box] at hD
      simp only [Option.some.injEq, Obj.cells.injEq] at hD
      exact copier_ne_int hD.2.1
  · intro k hk
    rcases hw with e | ⟨q, e, hq⟩
    · rw [e] at hk; exact Or.inl hk
    · rw [e] at hk
      simp only [Option.some.injEq] at hk
      rw [Deep.nblk_alloc, Deep.nblk_alloc] at hq
      have : w.drew.heap.size = w.heap.size := rfl
      exact Or.inr (by omega)
  · exact ⟨hg.os, hg.tape, hg.output, by rw [size_setCell]; omega, fun k hk hn => k6 k hk (fun e => hn (Or.inr e)) fun e => hn (Or.inl e)⟩
/-- what the map and the order add to it -/
theorem CopW.fin {C M lo : Nat} {g : List Ce} {fv : Value} {o : List Nat} {i a : Nat} {U : Nat → Prop} {gv gv' ov ov' : Value} {w w1 w2 w3 : World} {obj : Obj} (h : CopW C M lo g fv o i U gv ov w) (hlo : lo ≤ w.heap.size)
    (hC1 : w1.heap[C]? = some (.cells #[fv, gv', .map (some M), ov] 54)) (hG1 : CpG w1 lo (fun k => U k ∧ some k ≠ ov.ownBlock) g (o ++ [a]) i gv') (hv : ∀ k, some k = gv'.ownBlock → some k = gv.ownBlock ∨ w.heap.size ≤ k) (hB1 : ButP (fun k => k = C ∨ some k = gv.ownBlock) w w1)
    (hM1 : MapN w1 M o) (hM2 : MapN w2 M (o ++ [a])) (hg2 : w1.grownBy w2 (some M)) (hO2 : Stk w2 lo o ov) (hO3 : Stk w3 lo (o ++ [a]) ov') (hg3 : (w2.alloc obj).grownBy w3 ov.ownBlock) (hw3 : ov'.ownBlock = ov.ownBlock ∨ ∃ q, ov'.ownBlock = some q ∧ (w2.alloc obj).heap.size ≤ q) :
    CopW C M lo g fv (o ++ [a]) i (fun k => U k ∨ w.heap.size ≤ k) gv' ov' (w3.setCell ⟨C, 3, none⟩ ov') ∧ ButP U w (w3.setCell ⟨C, 3, none⟩ ov') := by
  have hs1 := hB1.size
  have hs2 := hg2.size
  have hs3 := hg3.size
  rw [Deep.nblk_alloc] at hs3 hw3
  obtain ⟨xs, hx⟩ := hG1.row
  have hCl := h.lt
  have hCM := h.ne
  have hCo : some C ≠ ov.ownBlock := own_ne_cells (CC := []) h.order h.box copier_ne_int
  have hMl := hM1.lt
  have k3 : ∀ k, k < w2.heap.size → some k ≠ ov.ownBlock → w3.heap[k]? = w2.heap[k]? := fun k hk hn => (hg3.block k (by rw [Deep.nblk_alloc]; omega) hn).trans (Deep.blk_alloc_lt _ _ _ hk)
  have k31 : ∀ k, k < w1.heap.size → some k ≠ ov.ownBlock → k ≠ M → w3.heap[k]? = w1.heap[k]? := fun k hk hn hm => (k3 k (by omega) hn).trans (hg2.block k hk (by simpa using hm))
  have hC3 := (k31 C (by omega) hCo hCM).trans hC1
  have hCo' : some C ≠ ov'.ownBlock := own_ne_cells (CC := []) hO3 hC3 copier_ne_int
  have k41 : ∀ k, k < w1.heap.size → some k ≠ ov.ownBlock → k ≠ M → k ≠ C → (w3.setCell ⟨C, 3, none⟩ ov').heap[k]? = w1.heap[k]? := fun k hk hn hm hc => (Below.heap_setCell _ _ _ _ hc).trans (k31 k hk hn hm)
  have hov : ∀ k, some k = ov'.ownBlock → some k = ov.ownBlock ∨ w2.heap.size < k := by
    intro k hk
    rcases hw3 with e | ⟨q, e, hq⟩
    · rw [e] at hk; exact Or.inl hk
    · rw [e] at hk; simp only [Option.some.injEq] at hk; exact Or.inr (by omega)
  have hlow : ∀ k, k < lo → (w3.setCell ⟨C, 3, none⟩ ov').heap[k]? = w.heap[k]? := fun k hk => (k41 k (by omega) (fun e => by have := own_block h.order e; omega) (by have := h.ml; omega) (by have := h.cl; omega)).trans (hB1.block k (by omega) fun e => by
    rcases e with e | e
    · have := h.cl; omega
    · obtain ⟨ys, hy⟩ := h.cells.row
      have := own_block hy e; omega)
  have hlow1 : ∀ k, k < lo → (w3.setCell ⟨C, 3, none⟩ ov').heap[k]? = w1.heap[k]? := fun k hk => k41 k (by omega) (fun e => by have := own_block h.order e; omega) (by have := h.ml; omega) (by have := h.cl; omega)
  refine ⟨⟨?_, ?_, ?_, ?_, ?_, ?_, Or.inl h.cU, Or.inl h.mU, h.cl, h.ml, h.src.mono (fun _ h => h) fun k hk => hlow k hk⟩, ?_⟩
  · simp [World.setCell, Array.getElem?_modify, hC3]
  · refine hG1.next (fun k hk hkl => ⟨Or.inl hk.1, fun e => ?_⟩) (fun k e hkl => ?_) (fun k D hS hkl hD => ?_) hlow1
    · rcases hov k e with e | e
      · exact hk.2 e
      · omega
    · have hkc : ∃ D, w1.heap[k]? = some (.cells D 45 (0, 0)) := by
        rcases hx.2 with ⟨rfl, -⟩ | ⟨b, cap, cur, rfl, -, hh, -⟩
        · simp [Value.ownBlock] at e
        · simp only [Value.ownBlock, Option.some.injEq] at e
          subst e; exact ⟨_, hh⟩
      obtain ⟨D, hD⟩ := hkc
      refine k41 k hkl (fun e2 => ?_) (hM1.ne_row hD) (fun e2 => ?_)
      · have h2 : w2.heap[k]? = some (.cells D 45 (0, 0)) := (hg2.block k hkl (by simpa using hM1.ne_row hD)).trans hD
        exact own_ne_cells (CC := []) hO2 h2 (by decide) e2
      · subst e2
        rw [hC1] at hD
        simp only [Option.some.injEq, Obj.cells.injEq] at hD
        exact copier_ne_cell hD.2.1
    · refine k41 k hkl hS.2 (hM1.ne_row hD) fun e2 => ?_
      subst e2
      rw [hC1] at hD
      simp only [Option.some.injEq, Obj.cells.injEq] at hD
      exact copier_ne_int hD.2.1
  · refine ⟨hO3.1, ?_⟩
    rcases hO3.2 with h' | ⟨b, cap, cur, rfl, hb, hh, r⟩
    · exact Or.inl h'
    · exact Or.inr ⟨b, cap, cur, rfl, hb, (Below.heap_setCell _ _ _ _ (fun e => hCo' (by simp only [Value.ownBlock, Option.some.injEq]; exact e.symm))).trans hh, r⟩
  · refine hM2.of_block ((Below.heap_setCell _ _ _ _ (fun e => hCM e.symm)).trans (k3 M (by omega) (own_ne_map hO2 hM2)))
  · intro k hk
    rcases hv k hk with e | e
    · exact Or.inl (h.gU k e)
    · exact Or.inr e
  · intro k hk
    rcases hov k hk with e | e
    · exact Or.inl (h.oU k e)
    · exact Or.inr (by omega)
  · refine ⟨(hg3.os.trans hg2.os).trans hB1.os, (hg3.tape.trans hg2.tape).trans hB1.tape, (hg3.output.trans hg2.output).trans hB1.output, by rw [size_setCell]; omega, fun k hk hn => ?_⟩
    refine (k41 k (by omega) (fun e => hn (h.oU k e)) (fun e => hn (e ▸ h.mU)) (fun e => hn (e ▸ h.cU))).trans (hB1.block k hk fun e => ?_)
    rcases e with e | e
    · exact hn (e ▸ h.cU)
    · exact hn (h.gU k e)
end Go.Proofs.Ytjpjikfmdaejeaa
/-
  THE PROGRAM's forward: the place of a cell's copy, which is made only once.
-/
namespace Go.Proofs.Ytjpjikfmdaejeaa
set_option linter.unusedVariables false
set_option linter.unusedSimpArgs false
open Go.RowKit Go.Maps

/-- the look-up of a place -/
theorem wpList_lookN {ops : Array Oper} {rest : List Oper} {o1 : Oper} {a : Act} {Q : Exit → Act → World → Prop} (w : World) (hg : o1.guard = none) (m x : Operand) (hop : o1.op = Op.lookup 52 m x true) (M : Nat) (o : List Nat) (hM : MapN w M o) (hm : a.eval m = .map (some M)) (q : Nat) (hq : q ≤ 1048576)
    (hx : a.eval x = .int .i64 (q : Int)) (b : Bool) (c : Int) (hb : memB o q = b) (hc : b = true → (posN o q : Int) = c) (hc0 : b = false → c = 0) (hK : wpList Try.prog ops Q rest (a.put o1.dst (.tuple #[.int .i64 c, .bool b])) w) : wpList Try.prog ops Q (o1 :: rest) a w := by
  obtain ⟨n, D, hown, hn, hs⟩ := hM
  refine wpList_lookup_own_ok_int w hg m x 52 hop 3 3 .i64 keyedI Try.underlying52 Try.underlying3 (zeroI w) M n D hm hown (.int .i64 (q : Int)) (.int .i64 (q : Int)) hx (keyOf_int_mk Try.underlying3 (litI_wf q hq)) ?_
  intro c' hat hwc
  obtain ⟨h1, h2⟩ := hs q hq
  rw [h1, hb]
  have e : c' = c := by
    cases b with
    | true =>
      have hm : q ∈ o := by simpa [memB] using hb
      rw [h2 hm] at hat
      rw [← hc rfl]
      simp only [DataW.lit.injEq, Lit.int.injEq, true_and] at hat
      exact hat.symm
    | false =>
      rw [atKey_of_not_has (h1.trans hb)] at hat
      rw [hc0 rfl]
      simp only [DataW.lit.injEq, Lit.int.injEq, true_and] at hat
      exact hat.symm
  rw [e]; exact hK
/-- the place of one more -/
theorem wpList_putN {ops : Array Oper} {rest : List Oper} {o1 : Oper} {a : Act} {Q : Exit → Act → World → Prop} (w : World) (hg : o1.guard = none) (m x v : Operand) (hop : o1.op = Op.mapUpdate 52 m x v) (M : Nat) (o : List Nat) (hM : MapN w M o) (hm : a.eval m = .map (some M)) (q : Nat) (hq : q ≤ 1048576)
    (hx : a.eval x = .int .i64 (q : Int)) (hv : a.eval v = .int .i64 (o.length : Int)) (hl : o.length ≤ 1048576) (hqo : q ∉ o) (hK : ∀ w', MapN w' M (o ++ [q]) → w.grownBy w' (some M) → wpList Try.prog ops Q rest (a.put o1.dst undef) w') : wpList Try.prog ops Q (o1 :: rest) a w := by
  obtain ⟨n, D, hown, hn, hs⟩ := hM
  refine wpList_mapUpdate_own w hg m x v 52 hop 3 3 keyedI Try.underlying52 _ M n D hm hown (by unfold maxLen; omega) (.int .i64 (q : Int)) (.int .i64 (o.length : Int)) (.int .i64 (q : Int)) hx hv (keyOf_int_mk Try.underlying3 (litI_wf q hq)) (.lit (.int .i64 (o.length : Int))) [] (plainElem_int Try.underlying3 (litI_wf _ hl)) ?_
  intro w' h1 h2
  exact hK w' (mapN_put h1 hown.isMap hn hs hqo) h2

theorem box_grownM {w w2 : World} {M b : Nat} {o : List Nat} {C : Array Value} {T : TypeId} (h : w.heap[b]? = some (.cells C T)) (hM : MapN w M o) (hg : w.grownBy w2 (some M)) : w2.heap[b]? = some (.cells C T) :=
  (hg.block b (Array.getElem?_eq_some_iff.1 h).1 (by have := hM.ne_row h; simpa using this)).trans h
theorem Stk.grownM {w w2 : World} {M lo : Nat} {o ws : List Nat} {v : Value} (h : Stk w lo ws v) (hM : MapN w M o) (hg : w.grownBy w2 (some M)) : Stk w2 lo ws v := by
  refine ⟨h.1, ?_⟩
  rcases h.2 with h' | ⟨b, cap, cur, e, hb, hh, r⟩
  · exact Or.inl h'
  · exact Or.inr ⟨b, cap, cur, e, hb, box_grownM hh hM hg, r⟩
theorem Stk.butC {w w1 : World} {C lo n : Nat} {ws : List Nat} {v gv : Value} {A : Array Value} {xs : List Value} (h : Stk w lo ws v) (hC : w.heap[C]? = some (.cells A 54)) (hx : w.ownsRow lo 45 3 gv n xs) (hb : ButP (fun k => k = C ∨ some k = gv.ownBlock) w w1) : Stk w1 lo ws v := by
  refine ⟨h.1, ?_⟩
  rcases h.2 with h' | ⟨b, cap, cur, e, hl, hh, r⟩
  · exact Or.inl h'
  · refine Or.inr ⟨b, cap, cur, e, hl, (hb.block b (Array.getElem?_eq_some_iff.1 hh).1 fun e2 => ?_).trans hh, r⟩
    rcases e2 with e2 | e2
    · subst e2
      rw [hh] at hC
      simp only [Option.some.injEq, Obj.cells.injEq] at hC
      exact copier_ne_int hC.2.1.symm
    · exact own_ne_cells (CC := []) hx hh (by decide) e2
/-- what forward hands back -/
def Fwd (C M lo : Nat) (g : List Ce) (fv : Value) (o : List Nat) (i a : Nat) (U : Nat → Prop) (w : World) (e : Ending) (w' : World) : Prop :=
  e = .returned (.int .i64 (posN (visit o a) a : Int)) ∧ ∃ gv' ov', CopW C M lo g fv (visit o a) i (fun k => U k ∨ w.heap.size ≤ k) gv' ov' w' ∧ ButP U w w'
theorem news1i (w : World) (n : Nat) : ∀ j u, [Value.int .i64 (n : Int)][j]? = some u → (w.alloc (.cells #[.int .i64 (n : Int)] 3)).cell? ((⟨w.heap.size, 0, none⟩ : Addr).add j) = some u := by
  intro j u hu
  have hj : j = 0 := by
    rcases Nat.lt_or_ge j 1 with h | h
    · omega
    · rw [List.getElem?_eq_none (by simpa using h)] at hu; cases hu
  subst hj
  simp only [List.getElem?_cons_zero, Option.some.injEq] at hu
  subst hu
  rw [WideShapes.add_plain]
  exact box_cell w #[.int .i64 (n : Int)] 3 0 _ rfl
theorem stk_snoc2 {w : World} {lo n : Nat} {ws : List Nat} {v : Value} (h : w.ownsRow lo 3 1 v (ws.length + 1) (plV ws ++ [.int .i64 (n : Int)])) : Stk w lo (ws ++ [n]) v := by
  unfold Stk
  rw [show plV (ws ++ [n]) = plV ws ++ [.int .i64 (n : Int)] by simp [plV], List.length_append]
  exact h

set_option maxRecDepth 100000 in
set_option maxHeartbeats 3200000 in
theorem forward_calls (C M lo : Nat) (g : List Ce) (fv : Value) (o : List Nat) (i a : Nat) (U : Nat → Prop) (gv ov : Value) (w : World) (h : CopW C M lo g fv o i U gv ov w) (hlo : lo ≤ w.heap.size) (hg : graphB g 6 = true) (hcs : Cs g.length o) (hi : i ≤ o.length) (hcl : ∀ j, j < i → ∀ k ∈ kidsN g (o.getD j 0), k ∈ o) (ha : a < g.length) :
    Calls Try.prog 60 #[.pointer (some ⟨C, 0, none⟩), .int .i64 (a : Int)] w (Fwd C M lo g fv o i a U w) := by
  have H := mkHid h
  have HG := mkHid hg
  have HCL := mkHid hcl
  have h400 : g.length ≤ 400 := graphB_len hg
  have hol := hcs.len
  obtain ⟨adf, capf, rfl⟩ : ∃ ad cap, fv = .slice ad g.length cap := by obtain ⟨ad, cap, e, -⟩ := h.src; exact ⟨ad, cap, e⟩
  obtain ⟨ado, capo, rfl⟩ := h.order.len
  have p0 := cell_of_blk h.box 0 _ rfl
  have p2 := cell_of_blk h.box 2 _ rfl
  have hCl := h.lt
  have HM := mkHid h.map
  clear h hg hcl
  cases hm : memB o a with
  | true =>
    have HV : Hid (Fwd C M lo g (.slice adf g.length capf) o i a U w (.returned (.int .i64 (posN o a : Int))) w) := by
      have e := memB_yes hm
      have h2 := H.out
      refine ⟨by rw [e], gv, .slice ado o.length capo, ?_, ButP.refl _ _⟩
      rw [e]
      exact ⟨h2.box, h2.cells.next (fun k hk _ => ⟨Or.inl hk.1, hk.2⟩) (fun _ _ _ => rfl) (fun _ _ _ _ _ => rfl) (fun _ _ => rfl), h2.order, h2.map, fun k e => Or.inl (h2.gU k e), fun k e => Or.inl (h2.oU k e), Or.inl h2.cU, Or.inl h2.mU, h2.cl, h2.ml, h2.src⟩
    obtain ⟨c, hc⟩ : ∃ c : Int, c = (posN o a : Int) := ⟨_, rfl⟩
    have HC := mkHid hc
    have HMB := mkHid hm
    clear hm hc
    go_enter Try.func60, Try.ntmps60
    go_wp2_with (first | (at_lookup; refine wpList_lookN _ rfl _ _ rfl M o HM.out rfl a (by omega) rfl true c HMB.out (fun _ => HC.out.symm) (fun e => Bool.noConfusion e) ?_) | go_in)
    go_ret
    rw [HC.out]
    exact HV.out
  | false =>
    have hao : a ∉ o := by simpa [memB] using hm
    have HAO := mkHid hao
    have HMB := mkHid hm
    have HVI : Hid (visit o a = o ++ [a]) := memB_no hm
    obtain ⟨bl, off, r2, e, hbl, c0, c1, c2, io, iN, hkk⟩ := H.out.src.atS a ha
    cases e
    have hbl2 : bl < lo := hbl
    have HKK : Hid (IntsOn w (Lt lo) (plI (kidsN g a)) r2) := by rw [kids_back HG.out a ha] at hkk; exact hkk
    obtain ⟨adk, capk, rfl, -, -, -⟩ := id hkk
    have HOP : Hid (opAt g a = g[a].op ∧ numAt g a = g[a].num) := by
      unfold opAt numAt
      rw [getD_at _ _ _ ha]
      exact ⟨rfl, rfl⟩
    have H64 : Hid (I64 (opAt g a) ∧ I64 (numAt g a)) := by rw [HOP.out.1, HOP.out.2]; exact ⟨io, iN⟩
    rw [← HOP.out.1] at c0
    rw [← HOP.out.2] at c1
    obtain ⟨op, hop⟩ : ∃ op, op = opAt g a := ⟨_, rfl⟩
    obtain ⟨num, hnum⟩ : ∃ num, num = numAt g a := ⟨_, rfl⟩
    have HON := mkHid (And.intro hop hnum)
    rw [← hop] at c0
    rw [← hnum] at c1
    obtain ⟨xs, hx⟩ := H.out.cells.row
    have HX := mkHid hx
    have hblw : bl < w.heap.size := by omega
    have HLOW : Hid (∀ w1, ButP (fun k => k = C ∨ some k = gv.ownBlock) w w1 → w1.heap[bl]? = w.heap[bl]?) := fun w1 hb => hb.block bl (by omega) fun e => by
      rcases e with e | e
      · have := H.out.cl; omega
      · have := own_block HX.out e; omega
    clear hm hao hkk io iN hop hnum hx hbl
    go_enter Try.func60, Try.ntmps60
    go_wp2_with (first | (at_lookup; refine wpList_lookN _ rfl _ _ rfl M o HM.out rfl a (by omega) rfl false 0 HMB.out (fun e => Bool.noConfusion e) (fun _ => rfl) ?_) | go_in)
    go_region_held3 (fun w' => w'.cell? ⟨C, 0, none⟩ = some (.slice (some ⟨bl, off, none⟩) g.length capf) ∧ w'.cell? ⟨bl, off + a * 3, none⟩ = some (.int .i64 op) ∧ w'.cell? ⟨bl, off + a * 3 + 1, none⟩ = some (.int .i64 num) ∧ w'.cell? ⟨bl, off + a * 3 + 2, none⟩ = some (.slice adk g[a].kids.length capk))
      (first
        | go_keep
        | exact ⟨s0, s1, s2, s3⟩
        | exact ⟨p0, c0, c1, c2⟩)
      (first
        | (go_at_call 53; refine (addP_calls C 1 54 #[.slice (some ⟨bl, off, none⟩) g.length capf, gv, .map (some M), .slice ado o.length capo] copier_ne_cell lo o.length op num gv adk g[a].kids.length capk xs w.drew H.out.box rfl HX.out hlo (by omega)).mono ?_; intro e w1 he; rw [HON.out.1, HON.out.2] at he; obtain ⟨rfl, gv', hC1, hG1, hv1, hB1⟩ := H.out.add hi HCL.out H64.out HKK.out HX.out he hlo; have hlw := HLOW.out w1 hB1; have s0 := cell_of_blk hC1 0 _ rfl; have s1 := (World.cell?_of_block (a := ⟨bl, off + a * 3, none⟩) hlw).trans c0; have s2 := (World.cell?_of_block (a := ⟨bl, off + a * 3 + 1, none⟩) hlw).trans c1; have s3 := (World.cell?_of_block (a := ⟨bl, off + a * 3 + 2, none⟩) hlw).trans c2; have HC1 := mkHid hC1; have HG1 := mkHid hG1; have HV1 := mkHid hv1; have HB1 := mkHid hB1; clear he hC1 hG1 hv1 hB1 hlw))
    have HM1 : Hid (MapN w1 M o) := HM.out.of_block (HB1.out.block M HM.out.lt fun e => by
      rcases e with e | e
      · exact H.out.ne e.symm
      · exact own_ne_map HX.out HM.out e)
    have q2 := cell_of_blk HC1.out 2 _ rfl
    clear s0 s1 s2 s3 p0 p2 c0 c1 c2
    obtain ⟨iI, zI, hII⟩ := infoI1
    have HII : Hid (Try.prog.info? 3 = some iI ∧ iI.zero = some zI ∧ iI.size = 1 ∧ iI.bytes = 8 ∧ zI.cells.size = 1) := hII
    have HO1 : Hid (Stk w1 lo o (.slice ado o.length capo)) := H.out.order.butC H.out.box HX.out HB1.out
    clear hII
    go_wp2_with (first
      | (at_mapUpdate; refine wpList_putN _ rfl _ _ _ rfl M o HM1.out rfl a (by omega) rfl rfl (by omega) HAO.out ?_; intro w2 hM2 hg2; go_must (have HM2 := mkHid hM2); go_must (have HG2 := mkHid hg2); go_must (have HS2 : Hid (w1.heap.size ≤ w2.heap.size) := hg2.size); go_must (have hC2 := box_grownM HC1.out HM1.out hg2); go_must (have HC2 := mkHid hC2); go_must (have q3 := cell_of_blk hC2 3 _ rfl); go_must (have q3a := old_cell q3 (.cells #[.int .i64 (a : Int)] 3)); go_must (have HO2 : Hid (Stk w2 lo o (.slice ado o.length capo)) := HO1.out.grownM HM1.out hg2); go_must (have HO2a : Hid (Stk (w2.alloc (.cells #[.int .i64 (a : Int)] 3)) lo o (.slice ado o.length capo)) := HO2.out.alloc _); clear hM2 hg2 hC2 q2)
      | (at_builtin; go_must (refine wpList_append_where _ rfl _ _ 23 rfl lo 3 iI zI 1 8 Try.underlying23 HII.out.1 HII.out.2.1 HII.out.2.2.1 HII.out.2.2.2.1 HII.out.2.2.2.2 (by decide) (.slice ado o.length capo) o.length (plV o) rfl HO2a.out ⟨w2.heap.size, 0, none⟩ 1 1 [.int .i64 (a : Int)] rfl rfl (news1i w2 _) (by simp [Value.oneCell']) (by unfold maxLen; omega) (by omega) (by rw [Deep.nblk_alloc]; have := HB1.out.size; have := HS2.out; omega) (by omega) ?_); go_must (intro v' w3 hown hg3 hw3); go_must (have HO3 : Hid (Stk w3 lo (o ++ [a]) v') := stk_snoc2 hown); go_must (have HG3 := mkHid hg3); go_must (have HW3 := mkHid hw3); go_must (have hC3 := (hg3.block C (by rw [Deep.nblk_alloc]; have := (Array.getElem?_eq_some_iff.1 HC2.out).1; omega) (own_ne_cells (CC := []) HO2.out HC2.out copier_ne_int)).trans ((Deep.blk_alloc_lt _ _ _ (Array.getElem?_eq_some_iff.1 HC2.out).1).trans HC2.out)); go_must (obtain ⟨adz, capz, rfl⟩ := stk_form HO3.out rfl); go_must (have r3 := cell_of_blk hC3 3 _ rfl); go_must (have rf := frz_of_blk hC3 3); clear hown hg3 hw3 hC3 q3 q3a)
      | go_in)
    go_ret
    obtain ⟨z1, z2⟩ := H.out.fin hlo HC1.out HG1.out HV1.out HB1.out HM1.out HM2.out HG2.out HO2.out HO3.out HG3.out HW3.out
    refine ⟨?_, gv', .slice adz (o.length + 1) capz, ?_, z2⟩
    · rw [HVI.out, posN_snoc o a HAO.out]; rfl
    · rw [HVI.out]; exact z1
end Go.Proofs.Ytjpjikfmdaejeaa
/-
  THE PROGRAM's forwardAll: the places of the copies of cells, in a new row.
-/
namespace Go.Proofs.Ytjpjikfmdaejeaa
set_option linter.unusedVariables false
set_option linter.unusedSimpArgs false
open Go.RowKit Go.Maps

theorem CopW.next {C M lo : Nat} {g : List Ce} {fv : Value} {o : List Nat} {i : Nat} {U V : Nat → Prop} {gv ov : Value} {w w' : World} (h : CopW C M lo g fv o i U gv ov w) (hV : ∀ k, U k → k < w.heap.size → V k) (hb : ∀ k, U k → k < w.heap.size → w'.heap[k]? = w.heap[k]?) (hl : ∀ k, k < lo → w'.heap[k]? = w.heap[k]?) : CopW C M lo g fv o i V gv ov w' := by
  obtain ⟨xs, hx⟩ := h.cells.row
  have hgl : ∀ k, some k = gv.ownBlock → k < w.heap.size := fun k e => (own_some hx k e.symm).2
  have hol : ∀ k, some k = ov.ownBlock → k < w.heap.size := fun k e => (own_some h.order k e.symm).2
  refine ⟨(hb C h.cU h.lt).trans h.box, h.cells.next (fun k hk hkl => ⟨hV k hk.1 hkl, hk.2⟩) (fun k e hk => hb k (h.gU k e) hk) (fun k D hS hk _ => hb k hS.1 hk) hl, ?_, h.map.of_block (hb M h.mU h.map.lt), fun k e => hV k (h.gU k e) (hgl k e), fun k e => hV k (h.oU k e) (hol k e), hV C h.cU h.lt, hV M h.mU h.map.lt, h.cl, h.ml, h.src.mono (fun _ h => h) fun k hk => hl k hk⟩
  refine ⟨h.order.1, ?_⟩
  rcases h.order.2 with h' | ⟨b, cap, cur, e, hg, hh, r⟩
  · exact Or.inl h'
  · exact Or.inr ⟨b, cap, cur, e, hg, (hb b (h.oU b (by rw [e]; rfl)) (Array.getElem?_eq_some_iff.1 hh).1).trans hh, r⟩
theorem cl_pre {g : List Ce} {o o' : List Nat} {i : Nat} (hp : o <+: o') (hi : i ≤ o.length) (hcl : ∀ j, j < i → ∀ k ∈ kidsN g (o.getD j 0), k ∈ o) : ∀ j, j < i → ∀ k ∈ kidsN g (o'.getD j 0), k ∈ o' := by
  intro j hj k hk
  rw [getD_pre hp (by omega)] at hk
  exact hp.subset (hcl j hj k hk)
theorem Stk.only {w w' : World} {lo : Nat} {ws : List Nat} {v : Value} (h : Stk w lo ws v) (hb : ∀ k, some k = v.ownBlock → k < w.heap.size → w'.heap[k]? = w.heap[k]?) : Stk w' lo ws v := by
  refine ⟨h.1, ?_⟩
  rcases h.2 with h' | ⟨b, cap, cur, e, hg, hh, r⟩
  · exact Or.inl h'
  · exact Or.inr ⟨b, cap, cur, e, hg, (hb b (by rw [e]; rfl) (Array.getElem?_eq_some_iff.1 hh).1).trans hh, r⟩
/-- what forwardAll hands back -/
def FwdAll (C M lo : Nat) (g : List Ce) (fv : Value) (o : List Nat) (i : Nat) (ls : List Nat) (U : Nat → Prop) (w : World) (e : Ending) (w' : World) : Prop :=
  ∃ pv gv' ov', e = .returned pv ∧ Stk w' w.heap.size (ls.map (posN (visitL o ls))) pv ∧ CopW C M lo g fv (visitL o ls) i (fun k => (U k ∨ w.heap.size ≤ k) ∧ some k ≠ pv.ownBlock) gv' ov' w' ∧ ButP U w w'
/-- what holds behind k places -/
structure FaRel (C M lo : Nat) (g : List Ce) (fv : Value) (o : List Nat) (i : Nat) (ls : List Nat) (U : Nat → Prop) (w : World) (k : Nat) (pv : Value) (wr : World) : Prop where
  places : Stk wr w.heap.size ((ls.take k).map (posN (visitL o (ls.take k)))) pv
  cop : ∃ gv ov, CopW C M lo g fv (visitL o (ls.take k)) i (fun k => (U k ∨ w.heap.size ≤ k) ∧ some k ≠ pv.ownBlock) gv ov wr
  but : ButP U w wr
  cs : Cs g.length (visitL o (ls.take k))
theorem FaRel.push {C M lo : Nat} {g : List Ce} {fv : Value} {o : List Nat} {i : Nat} {ls : List Nat} {U : Nat → Prop} {w : World} {k x : Nat} {pv pv' : Value} {wr w1 w5 : World} {obj : Obj} {gv1 ov1 : Value} (h : FaRel C M lo g fv o i ls U w k pv wr) (hx : ls[k]? = some x) (hxl : x < g.length) (hlo : lo ≤ w.heap.size)
    (h1 : CopW C M lo g fv (visit (visitL o (ls.take k)) x) i (fun y => ((U y ∨ w.heap.size ≤ y) ∧ some y ≠ pv.ownBlock) ∨ wr.heap.size ≤ y) gv1 ov1 w1) (hb1 : ButP (fun y => (U y ∨ w.heap.size ≤ y) ∧ some y ≠ pv.ownBlock) wr w1)
    (hst : Stk w5 w.heap.size ((ls.take k).map (posN (visitL o (ls.take k))) ++ [posN (visit (visitL o (ls.take k)) x) x]) pv') (hg : (w1.alloc obj).grownBy w5 pv.ownBlock) (hw : pv'.ownBlock = pv.ownBlock ∨ ∃ q, pv'.ownBlock = some q ∧ (w1.alloc obj).heap.size ≤ q) : FaRel C M lo g fv o i ls U w (k + 1) pv' w5 := by
  have hs1 := hb1.size
  have hsr := h.but.size
  have hs5 := hg.size
  rw [Deep.nblk_alloc] at hs5 hw
  have hvl : visitL o (ls.take (k + 1)) = visit (visitL o (ls.take k)) x := by rw [take_snoc hx, visitL_snoc]
  have hpv : ∀ y, some y = pv.ownBlock → w.heap.size ≤ y ∧ y < wr.heap.size := fun y e => own_some h.places y e.symm
  have k5 : ∀ y, y < w1.heap.size → some y ≠ pv.ownBlock → w5.heap[y]? = w1.heap[y]? := fun y hy hn => (hg.block y (by rw [Deep.nblk_alloc]; omega) hn).trans (Deep.blk_alloc_lt _ _ _ hy)
  have hpv' : ∀ y, some y = pv'.ownBlock → some y = pv.ownBlock ∨ w1.heap.size < y := by
    intro y hy
    rcases hw with e | ⟨q, e, hq⟩
    · rw [e] at hy; exact Or.inl hy
    · rw [e] at hy; simp only [Option.some.injEq] at hy; exact Or.inr (by omega)
  refine ⟨?_, ⟨gv1, ov1, ?_⟩, ?_, ?_⟩
  · rw [hvl, take_snoc hx, List.map_append, List.map_singleton]
    have e : (ls.take k).map (posN (visit (visitL o (ls.take k)) x)) = (ls.take k).map (posN (visitL o (ls.take k))) := List.map_congr_left fun y hy => posN_pre (visit_pre _ _) (visitL_mem _ _ _ hy)
    rw [e]; exact hst
  · rw [hvl]
    refine h1.next (fun y hy hyl => ⟨?_, fun e => ?_⟩) (fun y hy hyl => k5 y hyl fun e => ?_) fun y hy => k5 y (by omega) fun e => by have := (hpv y e).1; omega
    · rcases hy with hy | hy
      · exact hy.1
      · exact Or.inr (by omega)
    · rcases hpv' y e with e | e
      · rcases hy with hy | hy
        · exact hy.2 e
        · have := (hpv y e).2; omega
      · omega
    · rcases hy with hy | hy
      · exact hy.2 e
      · have := (hpv y e).2; omega
  · refine ⟨?_, ?_, ?_, by omega, fun y hy hn => ?_⟩
    · exact (hg.os.trans hb1.os).trans h.but.os
    · exact (hg.tape.trans hb1.tape).trans h.but.tape
    · exact (hg.output.trans hb1.output).trans h.but.output
    · refine ((k5 y (by omega) fun e => by have := (hpv y e).1; omega).trans (hb1.block y (by omega) fun e => ?_)).trans (h.but.block y hy hn)
      rcases e.1 with e | e
      · exact hn e
      · omega
  · rw [hvl]; exact h.cs.visit hxl
theorem wsnoc {w : World} {lo n q : Nat} {ws : List Nat} {v : Value} (hl : ws.length = q) (h : w.ownsRow lo 3 1 v (q + 1) (plV ws ++ [.int .i64 (n : Int)])) : Stk w lo (ws ++ [n]) v := by
  subst hl; exact stk_snoc2 h

set_option maxRecDepth 100000 in
set_option maxHeartbeats 1600000 in
theorem forwardAll_calls (C M lo : Nat) (g : List Ce) (fv : Value) (o : List Nat) (i : Nat) (ls : List Nat) (lv : Value) (U : Nat → Prop) (gv ov : Value) (w : World) (h : CopW C M lo g fv o i U gv ov w) (hlo : lo ≤ w.heap.size) (hg : graphB g 6 = true) (hcs : Cs g.length o) (hi : i ≤ o.length) (hcl : ∀ j, j < i → ∀ k ∈ kidsN g (o.getD j 0), k ∈ o) (hll : ∀ x ∈ ls, x < g.length) (hz : ls.length ≤ 1048576) (hU : ∀ k, U k → lo ≤ k) (hlv : IntsOn w (Lt lo) (plI ls) lv) :
    Calls Try.prog 45 #[.pointer (some ⟨C, 0, none⟩), lv] w (FwdAll C M lo g fv o i ls U w) := by
  have HG := mkHid hg
  have HCL := mkHid hcl
  have HLL := mkHid hll
  have HLV := mkHid hlv
  have HU := mkHid hU
  have HI := mkHid hi
  have HST : Hid (FaRel C M lo g fv o i ls U w 0 (.slice none 0 0) w) := ⟨World.ownsRow_nil _ _ _ _, ⟨gv, ov, h.next (fun k hk _ => ⟨Or.inl hk, by simp [Value.ownBlock]⟩) (fun _ _ _ => rfl) fun _ _ => rfl⟩, ButP.refl _ _, hcs⟩
  obtain ⟨adl, capl, rfl, hlc, hlm⟩ := pl_form (hlv.mono (S' := Lt w.heap.size) (fun k (hk : k < lo) => Nat.lt_of_lt_of_le hk hlo) fun _ _ => rfl)
  unfold maxLen at hlm
  clear h hg hcl hll hlv hU hcs
  go_enter Try.func45, Try.ntmps45
  go_wp2_with fail
  go_loopw [5, 10] (fun pv z wr => ∃ k : Nat, k ≤ ls.length ∧ z = .int .i64 k ∧ FaRel C M lo g fv o i ls U w k pv wr) (fun _ z _ => ls.length - (intOf z).toNat)
  case atStart => exact ⟨0, Nat.zero_le _, rfl, HST.out⟩
  case round =>
    obtain ⟨k, hk, rfl, hr⟩ := hrel
    have HR := mkHid hr
    have hjl : ((ls.take k).map (posN (visitL o (ls.take k)))).length = k := by rw [List.length_map, List.length_take]; omega
    have HJL := mkHid hjl
    obtain ⟨adp, capp, rfl⟩ : ∃ ad cap, u5 = .slice ad k cap := by obtain ⟨x, y, e⟩ := hr.places.len; rw [hjl] at e; exact ⟨x, y, e⟩
    clear hr hjl
    by_cases hlt : k < ls.length
    · obtain ⟨bl, off, x, rfl, hbl, hx, hxm, d0w⟩ := pl_at (HLV.out.mono (S' := Lt w.heap.size) (fun k (hk : k < lo) => Nat.lt_of_lt_of_le hk hlo) fun _ _ => rfl) k hlt
      have hbll : bl < lo := by
        obtain ⟨bl', off', e, hb, -⟩ := HLV.out.atS k (by rw [plI_length]; exact hlt)
        cases e; exact hb
      have hxl := HLL.out x hxm
      have HX := mkHid hx
      have d0 := (World.cell?_of_block (a := ⟨bl, off + k, none⟩) (HR.out.but.block bl hbl fun e => by have := HU.out bl e; omega)).trans d0w
      obtain ⟨gv1, ov1, hc⟩ := HR.out.cop
      have HC := mkHid hc
      obtain ⟨o', ho'⟩ : ∃ o', o' = visitL o (ls.take k) := ⟨_, rfl⟩
      have HO' := mkHid ho'
      have HCALL : Hid (Calls Try.prog 60 #[.pointer (some ⟨C, 0, none⟩), .int .i64 (x : Int)] wr (Fwd C M lo g fv (visitL o (ls.take k)) i x (fun y => (U y ∨ w.heap.size ≤ y) ∧ some y ≠ (Value.slice adp k capp).ownBlock) wr)) :=
        forward_calls C M lo g fv _ i x _ gv1 ov1 wr hc (Nat.le_trans hlo HR.out.but.size) HG.out HR.out.cs (Nat.le_trans HI.out (visitL_pre _ _).length_le) (cl_pre (visitL_pre _ _) HI.out HCL.out) hxl
      obtain ⟨iI, zI, hII⟩ := infoI1
      have HII : Hid (Try.prog.info? 3 = some iI ∧ iI.zero = some zI ∧ iI.size = 1 ∧ iI.bytes = 8 ∧ zI.cells.size = 1) := hII
      clear hII hc d0w hx hxm ho'
      go_wp2_with fail
      refine HCALL.out.mono ?_
      rintro e w1 ⟨rfl, gv2, ov2, hc2, hb2⟩
      have HC2 := mkHid hc2
      have HB2 := mkHid hb2
      obtain ⟨m, hm⟩ : ∃ m, m = posN (visit (visitL o (ls.take k)) x) x := ⟨_, rfl⟩
      have HM := mkHid hm
      rw [← hm]
      have HS1 : Hid (Stk (w1.alloc (.cells #[.int .i64 (m : Int)] 3)) w.heap.size ((ls.take k).map (posN (visitL o (ls.take k)))) (.slice adp k capp)) := (HR.out.places.only fun y e hy => hb2.block y hy fun e2 => e2.2 e).alloc _
      have HZ1 : Hid (w.heap.size ≤ w1.heap.size) := Nat.le_trans HR.out.but.size hb2.size
      have HS1r : Hid ((w1.alloc (.cells #[.int .i64 (m : Int)] 3)).ownsRow w.heap.size 3 1 (.slice adp k capp) k (plV ((ls.take k).map (posN (visitL o (ls.take k)))))) := by
        have h := HS1.out
        unfold Stk at h
        rw [HJL.out] at h; exact h
      clear hc2 hb2 hm d0
      go_wp2_with (at_builtin; go_must (refine wpList_append_where _ rfl _ _ 23 rfl w.heap.size 3 iI zI 1 8 Try.underlying23 HII.out.1 HII.out.2.1 HII.out.2.2.1 HII.out.2.2.2.1 HII.out.2.2.2.2 (by decide) (.slice adp k capp) k (plV ((ls.take k).map (posN (visitL o (ls.take k))))) rfl HS1r.out ⟨w1.heap.size, 0, none⟩ 1 1 [.int .i64 (m : Int)] rfl rfl (news1i w1 _) (by simp [Value.oneCell']) (by unfold maxLen; omega) (by omega) (by rw [Deep.nblk_alloc]; have := HZ1.out; omega) (by omega) ?_); go_must (intro v' w3 hown hg3 hw3); go_must (have HO3 := mkHid hown); go_must (have HG3 := mkHid hg3); go_must (have HW3 := mkHid hw3); clear hown hg3 hw3)
      have HR3 : Hid (FaRel C M lo g fv o i ls U w (k + 1) v' w3) := HR.out.push HX.out hxl hlo HC2.out HB2.out (by rw [← HM.out]; exact wsnoc HJL.out HO3.out) HG3.out HW3.out
      go_roundw
      case rel => first | exact ⟨k + 1, by omega, by go_num, HR3.out⟩ | ((repeat apply Exists.intro); exact ⟨⟨k + 1, by omega, by go_num, HR3.out⟩, rfl⟩)
      case measure => simp [intOf]; omega
    · have hke : k = ls.length := by omega
      have HV : Hid (FwdAll C M lo g fv o i ls U w (.returned (.slice adp k capp)) wr) := by
        have h := HR.out
        rw [hke] at h ⊢
        obtain ⟨h1, ⟨gv1, ov1, h2⟩, h3, h4⟩ := h
        rw [List.take_length] at h1 h2
        exact ⟨_, gv1, ov1, rfl, h1, h2, h3⟩
      clear hke
      go_wp2_with fail
      go_ret
      exact HV.out
end Go.Proofs.Ytjpjikfmdaejeaa
