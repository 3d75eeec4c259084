/-
  THE MODEL's l5Skip: past indirections.
-/
import Derived.Test.YtiipcgnkfhjpeaaGreatDoorMgExactEvalRun5
import Derived.Test.YtiipcgnkfhjpeaaGreatDoorMgExactEvalRun15
import Derived.Test.YtiipcgnkfhjpeaaGreatDoorMgExactEvalRun11
import Derived.Laws.OwnMore
import Derived.Test.YtiipcgnkfhjpeaaGreatDoorMgExactEvalRun19
namespace Go.Proofs.YtiipcgnkfhjpeaaGreatDoor
set_option linter.unusedVariables false
set_option linter.unusedSimpArgs false
open Go.RowKit

set_option maxHeartbeats 800000 in
theorem l5Skip_calls (g : List Ce) (a : Nat) (v : Value) (w : World) (hk : CIn w g v) (hg : graphB g 6 = true) (ha : a < g.length) :
    Calls Tryz.prog 91 #[v, .int .i64 (a : Int)] w fun e w' => e = .returned (.int .i64 (skipN g a : Int)) ∧ Below w.heap.size w w' := by
  have HK : Hid (CIn w g v) := hk
  have HG := mkHid hg
  have HSK : Hid (skipN g a = (followN g g.length a).getD a) := rfl
  clear hk hg
  go_enter Tryz.func91, Tryz.ntmps91
  go_wp2_with fail
  refine (l3Follow_calls g a _ _ HK.out ⟨6, HG.out⟩ ha).mono ?_
  rintro e w1 ⟨rfl, hb1⟩
  have HB1 : Hid (Below w.heap.size w w1) := hb1
  clear hb1
  rw [follow_enough HG.out a ha]
  cases hf : followN g g.length a with
  | none =>
    have HV : Hid (skipN g a = a) := by rw [Hid, HSK.out, hf]; rfl
    clear hf
    have e1 : folI none = -1 := rfl
    rw [e1]
    go_wp2_with fail
    go_ret
    exact ⟨ret_int (by rw [HV.out]), HB1.out⟩
  | some b =>
    have HV : Hid (skipN g a = b) := by rw [Hid, HSK.out, hf]; rfl
    clear hf
    have e1 : folI (some b) = (b : Int) := rfl
    rw [e1]
    have hbn : ¬ ((b : Int) < 0) := by omega
    go_wp2_with fail
    go_ret
    exact ⟨ret_int (by rw [HV.out]), HB1.out⟩
end Go.Proofs.YtiipcgnkfhjpeaaGreatDoor
/-
  AN OPERAND OF A CELL OF A GRAPH THAT IS BEING BUILT, OVERWRITTEN.
-/
namespace Go.Proofs.YtiipcgnkfhjpeaaGreatDoor
set_option linter.unusedVariables false
set_option linter.unusedSimpArgs false
open Go.RowKit

/-- a cell with one operand overwritten -/
def setKid (g : List Ce) (i q : Nat) (y : Int) : List Ce := g.modify i fun c => ⟨c.op, c.num, c.kids.set q y⟩
theorem setKid_len (g : List Ce) (i q : Nat) (y : Int) : (setKid g i q y).length = g.length := by simp [setKid]
theorem setKid_at (g : List Ce) (i q : Nat) (y : Int) (j : Nat) (hj : j < g.length) : (setKid g i q y)[j]'(by rw [setKid_len]; exact hj) = if i = j then ⟨g[j].op, g[j].num, g[j].kids.set q y⟩ else g[j] := by
  unfold setKid; rw [List.getElem_modify]
theorem setKid_op (g : List Ce) (i q : Nat) (y : Int) (j : Nat) (hj : j < g.length) : ((setKid g i q y)[j]'(by rw [setKid_len]; exact hj)).op = g[j].op ∧ ((setKid g i q y)[j]'(by rw [setKid_len]; exact hj)).num = g[j].num ∧ ((setKid g i q y)[j]'(by rw [setKid_len]; exact hj)).kids.length = g[j].kids.length := by
  rw [setKid_at g i q y j hj]; split <;> simp
theorem nil_len {α : Type} {l : List α} : l = [] ↔ l.length = 0 := List.length_eq_zero_iff.symm
/-- where an operand lies -/
theorem OwnC.kidAt {w : World} {lo : Nat} {S : Nat → Prop} {g : List Ce} {v : Value} (h : OwnC w lo S g v) (i : Nat) (hi : i < g.length) (q : Nat) (hq : q < g[i].kids.length) :
    ∃ b cap blk capk, v = .slice (some ⟨b, 0, none⟩) g.length cap ∧ lo ≤ b ∧ b < w.heap.size ∧ S blk ∧ blk < w.heap.size ∧ b ≠ blk ∧ g[i].kids.length ≤ capk ∧ capk ≤ maxLen ∧ w.cell? ⟨b, i * 3 + 2, none⟩ = some (.slice (some ⟨blk, 0, none⟩) g[i].kids.length capk) ∧
      w.cell? ⟨blk, q, none⟩ = some (.int .i64 g[i].kids[q]) ∧ w.frozen? ⟨blk, q, none⟩ = false ∧ ∀ y, OwnC (w.setCell ⟨blk, q, none⟩ (.int .i64 y)) lo S (setKid g i q y) v := by
  obtain ⟨hi0, xs, kb, h1, h2, h3⟩ := h
  obtain ⟨kv, e0, e1, e2, adk, capk, rfl, l1, l2, h5⟩ := h2 i hi
  rcases h5 with h5 | ⟨f, rfl, hS, hr, hf⟩
  · rw [h5] at hq; simp at hq
  obtain ⟨C, hC, -, -⟩ := id hr
  have hne : ∀ k, some k = v.ownBlock → k ≠ kb i := by
    rintro k e rfl
    rcases h1.2 with ⟨rfl, -⟩ | ⟨b, cap, cur, rfl, -, hh, -⟩
    · simp [Value.ownBlock] at e
    · simp only [Value.ownBlock, Option.some.injEq] at e
      rw [e, hh] at hC
      simp at hC
  obtain ⟨b, cap, rfl, hlo, hbl⟩ : ∃ b cap, v = .slice (some ⟨b, 0, none⟩) g.length cap ∧ lo ≤ b ∧ b < w.heap.size := by
    rcases h1.2 with ⟨rfl, h0⟩ | ⟨b, cap, cur, rfl, hg, hh, -⟩
    · omega
    · exact ⟨b, cap, rfl, hg, (Array.getElem?_eq_some_iff.1 hh).1⟩
  have hcell := h1.cellAt (i * 3 + 2) (by omega)
  have hfq := hr.cell (i := q) (by omega)
  rw [hf q hq] at hfq
  refine ⟨b, cap, kb i, capk, rfl, hlo, hbl, hS, hr.lt, hne b rfl, l1, l2, ?_, hfq, hr.frozen q, fun y => ?_⟩
  · rw [hcell]; exact e2
  have keepb : ∀ k, k ≠ kb i → (w.setCell ⟨kb i, q, none⟩ (.int .i64 y)).heap[k]? = w.heap[k]? := fun k hk => Below.heap_setCell _ _ _ _ hk
  refine ⟨fun j hj => ?_, xs, kb, ?_, fun j hj => ?_, ?_⟩
  · have hj2 : j < g.length := by rw [setKid_len] at hj; exact hj
    obtain ⟨a1, a2, -⟩ := setKid_op g i q y j hj2
    rw [a1, a2]; exact hi0 j hj2
  · rw [setKid_len]
    refine ⟨h1.1, ?_⟩
    rcases h1.2 with h | ⟨b2, cap2, cur, e, hg, hh, r⟩
    · exact Or.inl h
    · exact Or.inr ⟨b2, cap2, cur, e, hg, (keepb b2 (hne b2 (by rw [e]; rfl))).trans hh, r⟩
  · have hj2 : j < g.length := by rw [setKid_len] at hj; exact hj
    obtain ⟨a1, a2, a3⟩ := setKid_op g i q y j hj2
    obtain ⟨kv2, f0, f1, f2, f3⟩ := h2 j hj2
    refine ⟨kv2, by rw [a1]; exact f0, by rw [a2]; exact f1, f2, ?_⟩
    obtain ⟨ad2, cap2, rfl, m1, m2, f5⟩ := f3
    refine ⟨ad2, cap2, by rw [a3], by rw [a3]; exact m1, m2, ?_⟩
    rcases f5 with f5 | ⟨f', rfl, hS', hr', hf'⟩
    · exact Or.inl (nil_len.2 (by rw [a3, f5]; rfl))
    · by_cases hji : j = i
      · subst hji
        have hc2 : cap2 = capk := by
          rw [e2] at f2
          simp only [Option.some.injEq, Value.slice.injEq] at f2
          exact f2.2.2.symm
        subst hc2
        refine Or.inr ⟨fun x => if x = q then .int .i64 y else f x, rfl, hS, hr.set q _, fun x hx => ?_⟩
        rw [a3] at hx
        simp only [setKid_at g j q y j hj2, if_pos, List.getElem_set]
        by_cases e : x = q
        · rw [if_pos e, if_pos e.symm]
        · rw [if_neg e, if_neg (fun h => e h.symm)]; exact hf x hx
      · have hkk : g[j].kids = [] ∨ kb j ≠ kb i := by
          by_cases hn : g[j].kids = []
          · exact Or.inl hn
          · exact Or.inr (h3 j i hj2 hi hji hn (fun e => by rw [e] at hq; simp at hq))
        rcases hkk with hkk | hkk
        · exact Or.inl (nil_len.2 (by rw [a3, hkk]; rfl))
        · refine Or.inr ⟨f', rfl, hS', hr'.of_block (keepb _ hkk), fun x hx => ?_⟩
          simp only [setKid_at g i q y j hj2, if_neg (fun e : i = j => hji e.symm)] at hx ⊢
          exact hf' x hx
  · intro a b ha hb hab ea eb
    rw [setKid_len] at ha hb
    refine h3 a b ha hb hab (fun e => ea (nil_len.2 ?_)) (fun e => eb (nil_len.2 ?_))
    · rw [(setKid_op g i q y a ha).2.2, e]; rfl
    · rw [(setKid_op g i q y b hb).2.2, e]; rfl
end Go.Proofs.YtiipcgnkfhjpeaaGreatDoor
/-
  PLAIN: operands replaced one by one by the cells for which they stand. No program is named here.
-/
namespace Go.Proofs.YtiipcgnkfhjpeaaGreatDoor
set_option linter.unusedVariables false
set_option linter.unusedSimpArgs false

/-- the operands of the cells before i, and the first k of cell i, are replaced -/
def shortP (g : List Ce) (i k : Nat) : List Ce := g.mapIdx fun j c => ⟨c.op, c.num, c.kids.mapIdx fun q x => if j < i ∨ (j = i ∧ q < k) then (skipN g x.toNat : Int) else x⟩
theorem shortP_len (g : List Ce) (i k : Nat) : (shortP g i k).length = g.length := by simp [shortP]
theorem shortP_at (g : List Ce) (i k j : Nat) (hj : j < g.length) : (shortP g i k)[j]'(by rw [shortP_len]; exact hj) = ⟨g[j].op, g[j].num, g[j].kids.mapIdx fun q x => if j < i ∨ (j = i ∧ q < k) then (skipN g x.toNat : Int) else x⟩ := by simp [shortP]
theorem ce_ext {a b : Ce} (h1 : a.op = b.op) (h2 : a.num = b.num) (h3 : a.kids = b.kids) : a = b := by cases a; cases b; simp_all
theorem shortP_zero (g : List Ce) : shortP g 0 0 = g := by
  refine List.ext_getElem (shortP_len g 0 0) fun j h1 h2 => ?_
  rw [shortP_at g 0 0 j h2]
  refine ce_ext rfl rfl (List.ext_getElem (by simp) fun q h3 h4 => ?_)
  simp only [List.getElem_mapIdx]
  rw [if_neg (by omega)]
theorem shortP_end (g : List Ce) : shortP g g.length 0 = shortG g := by
  refine List.ext_getElem (by rw [shortP_len, shortG_len]) fun j h1 h2 => ?_
  rw [shortG_len] at h2
  rw [shortP_at g _ 0 j h2, shortG_at g j h2]
  unfold shortC
  refine ce_ext rfl rfl (List.ext_getElem (by simp) fun q h3 h4 => ?_)
  simp only [List.getElem_mapIdx, List.getElem_map]
  rw [if_pos (Or.inl h2)]
theorem shortP_next (g : List Ce) (i k : Nat) (hi : i < g.length) (hk : g[i].kids.length ≤ k) : shortP g i k = shortP g (i + 1) 0 := by
  refine List.ext_getElem (by rw [shortP_len, shortP_len]) fun j h1 h2 => ?_
  rw [shortP_len] at h2
  rw [shortP_at g i k j h2, shortP_at g (i + 1) 0 j h2]
  refine ce_ext rfl rfl (List.ext_getElem (by simp) fun q h3 h4 => ?_)
  simp only [List.getElem_mapIdx]
  simp only [List.length_mapIdx] at h3
  have e : (j < i ∨ (j = i ∧ q < k)) ↔ (j < i + 1 ∨ (j = i + 1 ∧ q < 0)) := by
    by_cases hji : j = i
    · subst hji; constructor <;> intro _ <;> omega
    · omega
  by_cases h : j < i ∨ (j = i ∧ q < k)
  · rw [if_pos h, if_pos (e.1 h)]
  · rw [if_neg h, if_neg (fun h2 => h (e.2 h2))]
theorem shortP_kid (g : List Ce) (i k : Nat) (hi : i < g.length) (hk : k < g[i].kids.length) : ((shortP g i k)[i]'(by rw [shortP_len]; exact hi)).kids.length = g[i].kids.length ∧ ∀ h, ((shortP g i k)[i]'(by rw [shortP_len]; exact hi)).kids[k]'h = g[i].kids[k] := by
  refine ⟨by rw [shortP_at g i k i hi]; simp, fun h => ?_⟩
  simp only [shortP_at g i k i hi, List.getElem_mapIdx]
  rw [if_neg (by omega)]
theorem shortP_klen (g : List Ce) (i k : Nat) (hi : i < g.length) : ((shortP g i k)[i]'(by rw [shortP_len]; exact hi)).kids.length = g[i].kids.length := by rw [shortP_at g i k i hi]; simp
theorem shortP_step (g : List Ce) (i k : Nat) (hi : i < g.length) (hk : k < g[i].kids.length) : setKid (shortP g i k) i k (skipN g (g[i].kids[k]).toNat : Int) = shortP g i (k + 1) := by
  refine List.ext_getElem (by rw [setKid_len, shortP_len, shortP_len]) fun j h1 h2 => ?_
  rw [shortP_len] at h2
  rw [setKid_at _ _ _ _ j (by rw [shortP_len]; exact h2), shortP_at g i (k + 1) j h2, shortP_at g i k j h2]
  split
  · rename_i e
    subst e
    refine ce_ext rfl rfl (List.ext_getElem (by simp) fun q h3 h4 => ?_)
    simp only [List.getElem_set, List.getElem_mapIdx]
    by_cases hq : k = q
    · subst hq
      rw [if_pos rfl]
      exact (if_pos (Or.inr ⟨trivial, Nat.lt_succ_self _⟩)).symm
    · rw [if_neg hq]
      by_cases h : q < k
      · rw [if_pos (Or.inr ⟨trivial, h⟩)]
        exact (if_pos (Or.inr ⟨trivial, Nat.lt_succ_of_lt h⟩)).symm
      · have h1 : ¬ (i < i ∨ (True ∧ q < k)) := by simp; omega
        have h2 : ¬ (i < i ∨ (True ∧ q < k + 1)) := by simp; omega
        rw [if_neg h1]
        exact (if_neg h2).symm
  · rename_i e
    refine ce_ext rfl rfl (List.ext_getElem (by simp) fun q h3 h4 => ?_)
    simp only [List.getElem_mapIdx]
    by_cases h : j < i
    · rw [if_pos (Or.inl h)]
      exact (if_pos (Or.inl h)).symm
    · have h1 : ¬ (j < i ∨ (j = i ∧ q < k)) := by omega
      have h2 : ¬ (j < i ∨ (j = i ∧ q < k + 1)) := by omega
      rw [if_neg h1]
      exact (if_neg h2).symm
end Go.Proofs.YtiipcgnkfhjpeaaGreatDoor
/-
  THE MODEL's l5Short: operands past indirections, in place on a copy.
-/
namespace Go.Proofs.YtiipcgnkfhjpeaaGreatDoor
set_option linter.unusedVariables false
set_option linter.unusedSimpArgs false
open Go.RowKit

theorem set_congr {w W : World} {j : Nat} (h : W.heap[j]? = w.heap[j]?) (a : Addr) (v : Value) : (W.setCell a v).heap[j]? = (w.setCell a v).heap[j]? := by
  simp only [World.setCell, Array.getElem?_modify, h]
theorem CellsOn.at' {w : World} {g : List Ce} {v : Value} (h : CIn w g v) (i : Nat) (hi : i < g.length) :
    ∃ bl off c, v = .slice (some ⟨bl, off, none⟩) g.length (match v with | .slice _ _ c => c | _ => 0) ∧ w.cell? ⟨bl, off + i * 3, none⟩ = some (.int .i64 g[i].op) ∧ w.cell? ⟨bl, off + i * 3 + 1, none⟩ = some (.int .i64 g[i].num) ∧ w.cell? ⟨bl, off + i * 3 + 2, none⟩ = some c ∧ I64 g[i].op ∧ I64 g[i].num ∧ IIn w g[i].kids c := by
  obtain ⟨ad, cap, rfl, l1, l2, h5⟩ := id h
  obtain ⟨bl, off, c, rfl, r⟩ := CellsOn.at h i hi
  exact ⟨bl, off, c, rfl, r⟩

set_option maxRecDepth 100000 in
set_option maxHeartbeats 3200000 in
theorem l5Short_calls (g : List Ce) (v : Value) (w : World) (hk : CIn w g v) (hg : graphB g 6 = true) : Calls Tryz.prog 93 #[v] w (CopyRes (shortG g) w) := by
  have HK : Hid (CIn w g v) := hk
  have HG := mkHid hg
  have h400 : g.length ≤ 400 := graphB_len hg
  obtain ⟨ad, cap, rfl, hl, hm, -⟩ := hk
  unfold maxLen at hm
  clear hg
  go_enter Tryz.func93, Tryz.ntmps93
  go_wp2_with fail
  refine (l3Copy_calls g _ _ HK.out ⟨6, HG.out⟩).mono ?_
  rintro e w1 ⟨gv, rfl, ho, hb1⟩
  have HB1 : Hid (Below w.heap.size w w1) := hb1
  have HO0 : Hid (OwnC w1 w.heap.size (fun b => w.heap.size ≤ b) (shortP g 0 0) gv) := by rw [Hid, shortP_zero]; exact ho
  obtain ⟨adg, capg, rfl⟩ := ho.form
  clear ho hb1
  go_wp2_with fail
  go_loopw [4] (fun z wr => ∃ i : Nat, i ≤ g.length ∧ z = .int .i64 i ∧ OwnC wr w.heap.size (fun b => w.heap.size ≤ b) (shortP g i 0) (.slice adg g.length capg) ∧ Below w.heap.size w wr) (fun z _ => g.length - (intOf z).toNat)
  case atStart => exact ⟨0, Nat.zero_le _, rfl, HO0.out, HB1.out⟩
  case round =>
    obtain ⟨i, hi, rfl, ho, hb⟩ := hrel
    obtain ⟨wo, rfl⟩ : ∃ wo : World, wo = wr := ⟨_, rfl⟩
    have HO := mkHid ho
    have HB : Hid (Below w.heap.size w wo) := hb
    by_cases hlt : i < g.length
    · clear ho hb
      go_wp2_with fail
      go_loopw [5] (fun z wr => ∃ k : Nat, k ≤ g[i].kids.length ∧ z = .int .i64 k ∧ OwnC wr w.heap.size (fun b => w.heap.size ≤ b) (shortP g i k) (.slice adg g.length capg) ∧ Below w.heap.size w wr) (fun z _ => g[i].kids.length - (intOf z).toNat)
      case atStart => exact ⟨0, Nat.zero_le _, rfl, HO.out, HB.out⟩
      case round =>
        obtain ⟨k, hk, rfl, ho, hb⟩ := hrel
        have HO2 := mkHid ho
        have HB2 : Hid (Below w.heap.size w wr) := hb
        have hiS : i < (shortP g i k).length := by rw [shortP_len]; exact hlt
        by_cases hltk : k < g[i].kids.length
        · obtain ⟨hkl1, hkl2⟩ := shortP_kid g i k hlt hltk
          obtain ⟨b, cap', blk, capk, e, hlb, hbz, hSb, hbkz, hne, hkc, hkm, c2, dk, fk, hset⟩ := ho.kidAt i hiS k (by rw [hkl1]; exact hltk)
          rw [hkl1] at c2 hkc
          rw [hkl2] at dk
          simp only [Value.slice.injEq] at e
          obtain ⟨rfl, -, -⟩ := e
          obtain ⟨hke, hkx⟩ := kidAt_get HG.out i hlt k hltk
          have HSTEP := mkHid (shortP_step g i k hlt hltk)
          obtain ⟨x, hx⟩ : ∃ x, x = kidAt g i k := ⟨_, rfl⟩
          rw [hke, ← hx] at dk HSTEP
          rw [← hx] at hkx
          have HSET : Hid (∀ W, Below wr.heap.size wr W → OwnC (W.setCell ⟨blk, k, none⟩ (.int .i64 (skipN g x : Int))) w.heap.size (fun b => w.heap.size ≤ b) (shortP g i (k + 1)) (.slice (some ⟨b, 0, none⟩) g.length capg) ∧ Below w.heap.size w (W.setCell ⟨blk, k, none⟩ (.int .i64 (skipN g x : Int)))) := fun W hW => by
            have h := hset (skipN g x : Int)
            have e : setKid (shortP g i k) i k (skipN g x : Int) = shortP g i (k + 1) := by have h := HSTEP.out; rw [Int.toNat_natCast] at h; exact h
            rw [e] at h
            exact ⟨h.next (fun _ h _ => h) (fun j _ hz => set_congr (hW.block j (by rw [size_setCell] at hz; exact hz)) _ _) (fun j _ hz => set_congr (hW.block j (by rw [size_setCell] at hz; exact hz)) _ _), (HB2.out.trans (hW.mono HB2.out.size)).setCell hSb _⟩
          have HNE : Hid (∀ W : World, W.cell? ⟨b, i * 3 + 2, none⟩ = some (.slice (some ⟨blk, 0, none⟩) g[i].kids.length capk) → (W.setCell ⟨blk, k, none⟩ (.int .i64 (skipN g x : Int))).cell? ⟨b, i * 3 + 2, none⟩ = some (.slice (some ⟨blk, 0, none⟩) g[i].kids.length capk)) := fun W h => (World.cell?_of_block (Below.heap_setCell _ _ _ _ hne)).trans h
          have hkI : (k : Int) < (g[i].kids.length : Int) := by omega
          have hiI : (i : Int) < (g.length : Int) := by omega
          have c2d : wr.drew.cell? ⟨b, i * 3 + 2, none⟩ = some (.slice (some ⟨blk, 0, none⟩) g[i].kids.length capk) := c2
          have dkd : wr.drew.cell? ⟨blk, k, none⟩ = some (.int .i64 (x : Int)) := dk
          unfold maxLen at hkm
          clear ho hb hset hx hke hkl1 hkl2 hne hlb hSb
          go_wp2_with fail
          go_region_with (first
              | (go_at_call 91; refine (l5Skip_calls g x _ _ ((HK.out.next HB2.out).drew) HG.out hkx).mono ?_; rintro e w5 ⟨rfl, hb5⟩; have HB5 : Hid (Below wr.heap.size wr w5) := ((Below.refl _ _).drew).trans hb5; have n2 := (HB5.out.cell (p := ⟨b, i * 3 + 2, none⟩) hbz).trans c2; have n3 := (HB5.out.cell (p := ⟨blk, k, none⟩) hbkz).trans dk; have nf := (HB5.out.frozen (p := ⟨blk, k, none⟩) hbkz).trans fk; clear hb5))
          all_goals
            have HFIN := mkHid (HSET.out w5 HB5.out)
            clear n2 n3 nf
            go_wp2_with fail
            go_roundw
            case rel => exact ⟨k + 1, by omega, by go_num, HFIN.out.1, HFIN.out.2⟩
            case measure => simp [intOf]; omega
        · have hke : k = g[i].kids.length := by omega
          have HN : Hid (OwnC wr w.heap.size (fun b => w.heap.size ≤ b) (shortP g (i + 1) 0) (.slice adg g.length capg)) := by
            rw [← shortP_next g i k hlt (by omega)]; exact ho
          obtain ⟨bl, off, r2, e, -, -, c2, -, -, hkk⟩ := ((ho.own fun k h _ => h).inn).at' i hiS
          obtain ⟨adk, capk, rfl, -, -, -⟩ := id hkk
          rw [shortP_klen g i k hlt] at c2
          simp only [Value.slice.injEq] at e
          obtain ⟨rfl, -, -⟩ := e
          clear ho hb hkk
          go_wp2_with fail
          go_roundw
          case rel => exact ⟨i + 1, by omega, by go_num, HN.out, HB2.out⟩
          case measure => simp [intOf]; omega
    · have hie : i = g.length := by omega
      have HE : Hid (OwnC wo w.heap.size (fun b => w.heap.size ≤ b) (shortG g) (.slice adg g.length capg)) := by
        have h := HO.out
        rw [hie, shortP_end] at h; exact h
      clear ho hb hie
      go_wp2_with fail
      go_ret
      exact ⟨_, rfl, HE.out, HB.out⟩
end Go.Proofs.YtiipcgnkfhjpeaaGreatDoor
/-
  THE MODEL's l5Collect AND CollectGraph.
-/
namespace Go.Proofs.YtiipcgnkfhjpeaaGreatDoor
set_option linter.unusedVariables false
set_option linter.unusedSimpArgs false
open Go.RowKit

set_option maxRecDepth 100000 in
set_option maxHeartbeats 1600000 in
theorem l5Collect_calls (g : List Ce) (rs : List Nat) (v rv : Value) (w : World) (hk : CIn w g v) (hr : IIn w (plI rs) rv) (hg : graphB g 6 = true) (hlt : ∀ x ∈ rs, x < g.length) (h20 : rs.length ≤ 20) :
    Calls Tryz.prog 74 #[v, rv] w (NewGI (copyG (shortG g) (rs.map (skipN g))) (topsG (shortG g) (rs.map (skipN g))) w) := by
  have HK : Hid (CIn w g v) := hk
  have HR : Hid (IIn w (plI rs) rv) := hr
  have HG := mkHid hg
  have HLT := mkHid hlt
  have H20 := mkHid h20
  obtain ⟨ad, cap, rfl, -, -, -⟩ := hk
  obtain ⟨adr, capr, rfl, hlr, hmr⟩ := pl_form hr
  unfold maxLen at hmr
  have HS0 : Hid (Stk (w.alloc (.cells #[] 3)) w.heap.size ((rs.take 0).map (skipN g)) (.slice (some ⟨w.heap.size, 0, none⟩) 0 0)) := stk_zero (Deep.blk_alloc_new w _) (Nat.le_refl _)
  clear hr hg hlt
  go_enter Tryz.func74, Tryz.ntmps74
  go_wp2_with fail
  go_loopw [6, 7] (fun top z wr => ∃ k : Nat, k ≤ rs.length ∧ z = .int .i64 k ∧ Stk wr w.heap.size ((rs.take k).map (skipN g)) top ∧ Below w.heap.size w wr) (fun _ z _ => rs.length - (intOf z).toNat)
  case atStart => exact ⟨0, Nat.zero_le _, rfl, HS0.out, box_below _ _⟩
  case round =>
    obtain ⟨k, hk, rfl, hst, hb⟩ := hrel
    have HS := mkHid hst
    have HB : Hid (Below w.heap.size w wr) := hb
    have hsw := hb.size
    have hjl : ((rs.take k).map (skipN g)).length = k := by rw [List.length_map, List.length_take]; omega
    have HJL := mkHid hjl
    obtain ⟨adp, capp, rfl⟩ : ∃ ad cap, u6 = .slice ad k cap := by obtain ⟨x, y, e⟩ := hst.len; rw [hjl] at e; exact ⟨x, y, e⟩
    clear hst hjl
    by_cases hlt : k < rs.length
    · obtain ⟨bl, off, x, rfl, hbl, hx, hxm, d0w⟩ := pl_at HR.out k hlt
      have d0 := (hb.cell (p := ⟨bl, off + k, none⟩) hbl).trans d0w
      have hxl := HLT.out x hxm
      have HX := mkHid hx
      clear hb hx hxm d0w
      go_wp2_with fail
      refine (l5Skip_calls g x _ _ (HK.out.next HB.out) HG.out hxl).mono ?_
      rintro e w1 ⟨rfl, hb1⟩
      have HB1 : Hid (Below w.heap.size w w1) := HB.out.trans (hb1.mono HB.out.size)
      have HS1 : Hid (Stk w1 w.heap.size ((rs.take k).map (skipN g)) (.slice adp k capp)) := HS.out.next hb1
      have hzw := HB1.out.size
      obtain ⟨m, hm⟩ : ∃ m, m = skipN g x := ⟨_, rfl⟩
      have HM := mkHid hm
      rw [← hm]
      have HS3 : Hid (Stk (w1.alloc (.cells #[.int .i64 (m : Int)] 3)) w.heap.size ((rs.take k).map (skipN g)) (.slice adp k capp)) := HS1.out.alloc _
      have HK3 : Hid (IIn (w1.alloc (.cells #[.int .i64 (m : Int)] 3)) [(m : Int)] (.slice (some ⟨w1.heap.size, 0, none⟩) 1 1)) := one_in w1 m
      have HLO : Hid (w.heap.size ≤ (w1.alloc (.cells #[.int .i64 (m : Int)] 3)).heap.size) := by rw [Hid, Deep.nblk_alloc]; omega
      clear hb1 d0 hm
      go_wp2_with (at_builtin; go_must (refine wpList_push rfl _ _ rfl _ w.heap.size ((rs.take k).map (skipN g)) [m] (.slice adp k capp) (.slice (some ⟨w1.heap.size, 0, none⟩) 1 1) rfl HS3.out rfl HK3.out rfl HLO.out (by rw [HJL.out]; simp; have := H20.out; omega) ?_); go_must (intro v' w5 hst5 hg5); go_must (have HS5 := mkHid hst5); go_must (have HB5 : Hid (Below w.heap.size w w5) := push_below HS3.out (HB1.out.alloc hzw _) (Nat.le_refl _) hg5 (Nat.le_refl _)); clear hst5 hg5)
      have HS6 : Hid (Stk w5 w.heap.size ((rs.take (k + 1)).map (skipN g)) v') := by
        rw [Hid, take_snoc HX.out, List.map_append, List.map_singleton, ← HM.out]; exact HS5.out
      go_roundw
      case rel => first | exact ⟨k + 1, by omega, by go_num, HS6.out, HB5.out⟩ | ((repeat apply Exists.intro); exact ⟨⟨k + 1, by omega, by go_num, HS6.out, HB5.out⟩, rfl⟩)
      case measure => simp [intOf]; omega
    · have hke : k = rs.length := by omega
      have HV : Hid (IIn wr (plI (rs.map (skipN g))) (.slice adp k capp)) := by
        have h := HS.out
        rw [hke, List.take_length] at h
        rw [hke]; exact h.pin
      clear hb hke
      go_wp2_with fail
      refine (l5Short_calls g _ _ (HK.out.next HB.out) HG.out).mono ?_
      rintro e w1 ⟨gv, rfl, ho, hb1⟩
      have HB1 : Hid (Below w.heap.size w w1) := HB.out.trans (hb1.mono HB.out.size)
      have HV1 := mkHid (HV.out.next hb1)
      have HO := mkHid (ho.cin fun k h _ => h)
      clear ho hb1
      go_wp2_with fail
      refine (l5Copy_calls (shortG g) (rs.map (skipN g)) _ _ _ HO.out HV1.out (shortG_valid HG.out) (fun x hx => ?_) (by rw [List.length_map]; exact H20.out)).mono ?_
      · simp only [List.mem_map] at hx
        obtain ⟨a, ha, rfl⟩ := hx
        rw [shortG_len]
        exact skip_lt HG.out (HLT.out a ha)
      rintro e w2 ⟨gv2, tv2, rfl, ho, hs, hb2⟩
      have HB2 : Hid (Below w.heap.size w w2) := HB1.out.trans (hb2.mono HB1.out.size)
      have HO2 := mkHid (ho.lower HB1.out.size (S' := fun b => w.heap.size ≤ b) fun b hb => Nat.le_trans HB1.out.size hb)
      have HS2 := mkHid (hs.lower HB1.out.size)
      clear ho hs hb2
      go_wp2_with fail
      go_ret2
      exact ⟨_, _, rfl, HO2.out, HS2.out, HB2.out⟩

end Go.Proofs.YtiipcgnkfhjpeaaGreatDoor
/-
  A CELL OF A GRAPH THAT IS BEING BUILT, OVERWRITTEN.
-/
namespace Go.Proofs.YtiipcgnkfhjpeaaGreatDoor
set_option linter.unusedVariables false
set_option linter.unusedSimpArgs false
open Go.RowKit

/-- the world behind the three stores of a cell -/
def st3 (w : World) (b i : Nat) (o m : Int) (kv : Value) : World := ((w.setCell ⟨b, i * 3, none⟩ (.int .i64 o)).setCell ⟨b, i * 3 + 1, none⟩ (.int .i64 m)).setCell ⟨b, i * 3 + 2, none⟩ kv
theorem st3_block {w : World} {b i : Nat} {o m : Int} {kv : Value} {k : Nat} (h : k ≠ b) : (st3 w b i o m kv).heap[k]? = w.heap[k]? := by
  unfold st3
  rw [Below.heap_setCell _ _ _ _ (by exact h), Below.heap_setCell _ _ _ _ (by exact h), Below.heap_setCell _ _ _ _ (by exact h)]
theorem st3_size {w : World} {b i : Nat} {o m : Int} {kv : Value} : (st3 w b i o m kv).heap.size = w.heap.size := by
  unfold st3; rw [size_setCell, size_setCell, size_setCell]
theorem st3_below {w0 w : World} {B b i : Nat} {o m : Int} {kv : Value} (h : Below B w0 w) (hb : B ≤ b) : Below B w0 (st3 w b i o m kv) := ((h.setCell hb _).setCell hb _).setCell hb _
theorem OwnC.setc {w : World} {lo : Nat} {S : Nat → Prop} {g : List Ce} {b cap : Nat} {c : Ce} {kv : Value} {blk : Nat} (h : OwnC w lo S g (.slice (some ⟨b, 0, none⟩) g.length cap)) (i : Nat) (hi : i < g.length)
    (hc : I64 c.op ∧ I64 c.num) (hk : KRowS w (fun x => x = blk) c.kids blk kv) (hS : ¬ S blk) :
    OwnC (st3 w b i c.op c.num kv) lo (fun x => S x ∨ x = blk) (g.set i c) (.slice (some ⟨b, 0, none⟩) g.length cap) := by
  obtain ⟨hi0, xs, kb, h1, h2, h3⟩ := h
  have hx1 := (h1.stored (i * 3) (.int .i64 c.op)).1
  have hx2 := (hx1.stored (i * 3 + 1) (.int .i64 c.num)).1
  have hx3 := (hx2.stored (i * 3 + 2) kv).1
  have hlen := h1.1
  have hbC : ∃ C, w.heap[b]? = some (.cells C 93 (0, 0)) := by
    rcases h1.2 with ⟨e, -⟩ | ⟨b2, cap2, cur2, e, -, hh, -⟩
    · cases e
    · cases e; exact ⟨cur2, hh⟩
  have keep : ∀ (C : Array Value) (k : Nat), k < w.heap.size → w.heap[k]? = some (.cells C 3 (0, 0)) → (st3 w b i c.op c.num kv).heap[k]? = w.heap[k]? := by
    intro C k _ hC
    refine st3_block fun e => ?_
    subst e
    obtain ⟨C2, hC2⟩ := hbC
    rw [hC] at hC2
    simp at hC2
  have ne : ∀ j (hj : j < g.length), g[j].kids ≠ [] → kb j ≠ blk := by
    intro j hj hne e
    obtain ⟨kv', -, -, -, _, _, _, _, _, h5⟩ := h2 j hj
    rcases h5 with h5 | ⟨f5, -, h6, -⟩
    · exact hne h5
    · exact hS (e ▸ h6)
  refine ⟨fun j hj => ?_, ((xs.set (i * 3) (.int .i64 c.op)).set (i * 3 + 1) (.int .i64 c.num)).set (i * 3 + 2) kv, fun j => if j = i then blk else kb j, ?_, fun j hj => ?_, ?_⟩
  · rw [List.length_set] at hj
    rw [List.getElem_set]
    split
    · exact hc
    · exact hi0 j hj
  · rw [List.length_set]; exact hx3
  · rw [List.length_set] at hj
    by_cases hji : j = i
    · subst hji
      refine ⟨kv, ?_, ?_, ?_, ?_⟩
      · rw [List.getElem_set_self, List.getElem?_set_ne (by omega), List.getElem?_set_ne (by omega), List.getElem?_set_self (by omega)]
      · rw [List.getElem_set_self, List.getElem?_set_ne (by omega), List.getElem?_set_self (by rw [List.length_set]; omega)]
      · rw [List.getElem?_set_self (by rw [List.length_set, List.length_set]; omega)]
      · simp only [if_pos, List.getElem_set_self]
        exact hk.keep (fun k hk _ => Or.inr hk) fun C _ h5 hC => keep C _ h5 hC
    · obtain ⟨kv', e0, e1, e2, e3⟩ := h2 j hj
      have hne : g[j] = (g.set i c)[j]'(by rw [List.length_set]; exact hj) := by rw [List.getElem_set_ne (by omega)]
      refine ⟨kv', ?_, ?_, ?_, ?_⟩
      · rw [← hne, List.getElem?_set_ne (by omega), List.getElem?_set_ne (by omega), List.getElem?_set_ne (by omega)]; exact e0
      · rw [← hne, List.getElem?_set_ne (by omega), List.getElem?_set_ne (by omega), List.getElem?_set_ne (by omega)]; exact e1
      · rw [List.getElem?_set_ne (by omega), List.getElem?_set_ne (by omega), List.getElem?_set_ne (by omega)]; exact e2
      · simp only [if_neg hji]
        rw [← hne]
        exact e3.keep (fun k hk _ => Or.inl hk) fun C _ h5 hC => keep C _ h5 hC
  · intro i1 j1 hi1 hj1 hij ei ej
    rw [List.length_set] at hi1 hj1
    by_cases hii : i1 = i
    · have hji : ¬ j1 = i := by omega
      simp only [if_pos hii, if_neg hji]
      rw [List.getElem_set_ne (by omega)] at ej
      exact (ne j1 hj1 ej).symm
    · rw [List.getElem_set_ne (by omega)] at ei
      by_cases hji : j1 = i
      · simp only [if_neg hii, if_pos hji]
        exact ne i1 hi1 ei
      · rw [List.getElem_set_ne (by omega)] at ej
        simp only [if_neg hii, if_neg hji]
        exact h3 i1 j1 hi1 hj1 hij ei ej
/-- the row of one operand in a new block -/
theorem krow_one (w : World) (k : Nat) : KRowS (w.alloc (.cells #[.int .i64 (k : Int)] 3)) (fun x => x = w.heap.size) [(k : Int)] w.heap.size (.slice (some ⟨w.heap.size, 0, none⟩) 1 1) :=
  ⟨_, 1, rfl, Nat.le_refl _, by simp [maxLen], Or.inr ⟨fun _ => .int .i64 (k : Int), rfl, rfl, ⟨#[.int .i64 (k : Int)], Deep.blk_alloc_new _ _, rfl, fun i hi => by
    obtain rfl : i = 0 := by omega
    rfl⟩, fun i hi => by
    obtain rfl : i = 0 := by simp at hi; omega
    rfl⟩⟩
theorem krow_nil (w : World) (S : Nat → Prop) (blk : Nat) : KRowS w S [] blk (.slice none 0 0) := ⟨_, 0, rfl, Nat.le_refl _, by simp [maxLen], Or.inl rfl⟩
end Go.Proofs.YtiipcgnkfhjpeaaGreatDoor
/-
  A CELL OF A GRAPH OF ONE's OWN BECOMES AN INDIRECTION, in memory.
-/
namespace Go.Proofs.YtiipcgnkfhjpeaaGreatDoor
set_option linter.unusedVariables false
set_option linter.unusedSimpArgs false
open Go.RowKit

theorem ind_i64W (k : Nat) : I64 (indTo k).op ∧ I64 (indTo k).num := by unfold I64 indTo; simp
theorem OwnC.blkW {w : World} {lo : Nat} {S : Nat → Prop} {g : List Ce} {ad : Option Addr} {n cap : Nat} (h : OwnC w lo S g (.slice ad n cap)) (h0 : 0 < g.length) : ∃ b, ad = some ⟨b, 0, none⟩ ∧ n = g.length ∧ lo ≤ b ∧ b < w.heap.size := by
  obtain ⟨ys, hys⟩ := h.row
  rcases hys.2 with ⟨-, hz⟩ | ⟨b5, c5, cur5, e5, hlo, hh, -⟩
  · omega
  · simp only [Value.slice.injEq] at e5
    exact ⟨b5, e5.1, e5.2.1, hlo, (Array.getElem?_eq_some_iff.1 hh).1⟩
/-- a row of one operand is laid, the cell stands for it -/
theorem OwnC.setInd {w : World} {lo b cap n : Nat} {g : List Ce} (h : OwnC w lo (fun b => lo ≤ b) g (.slice (some ⟨b, 0, none⟩) n cap)) (hn : n = g.length) (hlo : lo ≤ w.heap.size) (i k : Nat) (hi : i < g.length) :
    OwnC (st3 (w.alloc (.cells #[.int .i64 (k : Int)] 3)) b i 11 0 (.slice (some ⟨w.heap.size, 0, none⟩) 1 1)) lo (fun b => lo ≤ b) (g.set i (indTo k)) (.slice (some ⟨b, 0, none⟩) n cap) := by
  subst hn
  have hoa : OwnC (w.alloc (.cells #[.int .i64 (k : Int)] 3)) lo (fun b => lo ≤ b ∧ b < w.heap.size) g (.slice (some ⟨b, 0, none⟩) g.length cap) :=
    h.next (fun k hk hz => ⟨hk, hz⟩) (fun k _ hz => Deep.blk_alloc_lt _ _ _ hz) (fun k _ hz => Deep.blk_alloc_lt _ _ _ hz)
  have hset := hoa.setc i hi (c := indTo k) (ind_i64W k) (krow_one w k) (by rintro ⟨-, h⟩; omega)
  exact hset.next (fun k hk _ => by rcases hk with h | h; exact h.1; omega) (fun _ _ _ => rfl) (fun _ _ _ => rfl)
theorem own_cellW {w : World} {base n cap b : Nat} {xs : List Value} (h : w.ownsRow base 93 3 (.slice (some ⟨b, 0, none⟩) n cap) n xs) (j : Nat) (hj : j < n * 3) : ∃ z, w.cell? ⟨b, j, none⟩ = some z :=
  ⟨_, (h.cellAt j hj).trans (List.getElem?_eq_getElem (by have := h.1; omega))⟩
/-- a cell that is not enabled -/
theorem not_en_op {g : List Ce} {i : Nat} (h : ¬ isSel g i) (k : Nat) : ¬ Enabled g i k := fun e => h e.sel
theorem not_en_none {g : List Ce} {i : Nat} (h : followN g g.length (kidAt g i 0) = none) (k : Nat) : ¬ Enabled g i k := fun e => by rw [e.fol] at h; cases h
theorem not_en_pair {g : List Ce} {i q : Nat} (h : followN g g.length (kidAt g i 0) = some q) (h5 : opAt g q ≠ 5) (k : Nat) : ¬ Enabled g i k := fun e => by
  rw [e.fol] at h
  simp only [Option.some.injEq] at h
  subst h
  exact h5 e.pair
theorem pair_kids {g : List Ce} {defs : Int} (hg : graphB g defs = true) {k : Nat} (hk : k < g.length) (h : g[k].op = 5) : g[k].kids.length = 2 := by
  have h1 := kids_count hg k hk
  rw [h] at h1
  have e : cArity 5 = 2 := by decide
  omega
theorem sel_kids {g : List Ce} {defs : Int} (hg : graphB g defs = true) {k : Nat} (hk : k < g.length) (h : g[k].op = 6 ∨ g[k].op = 7) : g[k].kids.length = 1 := by
  have h1 := kids_count hg k hk
  rcases h with h | h <;> rw [h] at h1 <;> have e : cArity 6 = 1 ∧ cArity 7 = 1 := by decide
  all_goals omega
end Go.Proofs.YtiipcgnkfhjpeaaGreatDoor
