/-
  THE MODEL's l3Copy: a copy of a graph, in new memory.
-/
import Derived.Test.YtjpjikfmdaejeaaDoorMgExactNumberNeed17
import Derived.Test.YtjpjikfmdaejeaaDoorMgExactNumberNeed38
import Derived.Test.YtjpjikfmdaejeaaDoorMgExactNumberNeed8
import Derived.Test.YtjpjikfmdaejeaaDoorMgExactNumberNeed25
import Derived.Deep.DeepCutAuto
import Derived.Deep.RegionWith
import Derived.Deep.RegionHeld3
import Derived.Test.YtjpjikfmdaejeaaDoorMgExactNumberNeed21
import Derived.Test.YtjpjikfmdaejeaaDoorMgExactNumberNeed36
namespace Go.Proofs.YtjpjikfmdaejeaaDoor
set_option linter.unusedVariables false
set_option linter.unusedSimpArgs false
open Go.RowKit

/-- a copy of a graph, in rows of its own from block w.heap.size on -/
def CopyRes (g : List Ce) (w : World) (e : Ending) (w' : World) : Prop := ∃ gv, e = .returned gv ∧ OwnC w' w.heap.size (fun b => w.heap.size ≤ b) g gv ∧ Below w.heap.size w w'

/-- one cell more, with operands in a new row -/
theorem copy_push {wr w1 w3 : World} {lo : Nat} {G : List Ce} {v v' kv : Value} {ws : List Nat} {o n : Int} (h : OwnC wr lo (fun b => lo ≤ b) G v) (hlo : lo ≤ wr.heap.size) (h1 : Below wr.heap.size wr w1) (hst : Stk w1 wr.heap.size ws kv) (obj : Obj) {xs : List Value}
    (hx : (w1.alloc obj).ownsRow lo 64 3 v G.length xs) (hown : w3.ownsRow lo 64 3 v' (G.length + 1) (xs ++ [.int .i64 o, .int .i64 n, kv])) (hg : (w1.alloc obj).grownBy w3 v.ownBlock) (ho : I64 o) (hn : I64 n) :
    OwnC w3 lo (fun b => lo ≤ b) (G ++ [⟨o, n, ws.map fun (a : Nat) => (a : Int)⟩]) v' := by
  have hs1 := h1.size
  obtain ⟨ys, hy⟩ := h.row
  have h4 : OwnC (w1.alloc obj) lo (fun b => lo ≤ b ∧ b < wr.heap.size) G v := h.next (fun b hb hb2 => ⟨hb, hb2⟩) (fun b _ hb => (Deep.blk_alloc_lt _ _ _ (by omega)).trans (h1.block b hb)) (fun b _ hb => (Deep.blk_alloc_lt _ _ _ (by omega)).trans (h1.block b hb))
  obtain ⟨blk, hb1, hb3⟩ : ∃ blk, wr.heap.size ≤ blk ∧ KRowS (w1.alloc obj) (fun b => b = blk) (ws.map fun (a : Nat) => (a : Int)) blk kv := by
    obtain ⟨blk, h1, h2⟩ := stk_krow (hst.alloc obj)
    by_cases he : ws = []
    · obtain ⟨ad, cap, e, l1, l2, -⟩ := h2
      exact ⟨wr.heap.size, Nat.le_refl _, ad, cap, e, l1, l2, Or.inl (by rw [he]; rfl)⟩
    · exact ⟨blk, (own_some hst blk (h1 he)).1, h2⟩
  have h5 := h4.step (c := ⟨o, n, ws.map fun (a : Nat) => (a : Int)⟩) (v' := v') ⟨ho, hn⟩ hb3 (fun h => by have := h.2; omega) xs hx hown hg
  refine h5.next (fun b hb _ => ?_) (fun _ _ _ => rfl) (fun _ _ _ => rfl)
  rcases hb with hb | rfl
  · exact hb.1
  · omega

theorem copy_below {wr w1 : World} {o : Obj} (h : (wr.alloc o).drew.grownBy w1 (Value.slice (some ⟨wr.heap.size, 0, none⟩) 0 0).ownBlock) : Below wr.heap.size wr w1 :=
  ⟨h.os, h.tape, h.output, by have h1 : (wr.alloc o).heap.size ≤ w1.heap.size := h.size; rw [Deep.nblk_alloc] at h1; omega, fun k hk => (h.block k (by show k < (wr.alloc o).heap.size; rw [Deep.nblk_alloc]; omega) (by simp only [Value.ownBlock, ne_eq, Option.some.injEq]; omega)).trans (Deep.blk_alloc_lt _ _ _ hk)⟩
theorem copy_own {wr w1 : World} {lo n : Nat} {v : Value} {xs : List Value} (h : wr.ownsRow lo 64 3 v n xs) (hb : Below wr.heap.size wr w1) (o : Obj) : (w1.alloc o).ownsRow lo 64 3 v n xs := by
  refine ⟨h.1, ?_⟩
  have hs := hb.size
  rcases h.2 with h' | ⟨g, cap, cur, rfl, hg, hh, r⟩
  · exact Or.inl h'
  · have hl := (Array.getElem?_eq_some_iff.1 hh).1
    exact Or.inr ⟨g, cap, cur, rfl, hg, ((Deep.blk_alloc_lt _ _ _ (by omega)).trans (hb.block g hl)).trans hh, r⟩

theorem copy_below3 {w wr w1 w3 : World} {n : Nat} {v : Value} {xs : List Value} {o : Obj} (hb : Below w.heap.size w wr) (h1 : Below wr.heap.size wr w1) (hx : wr.ownsRow w.heap.size 64 3 v n xs) (hg : (w1.alloc o).grownBy w3 v.ownBlock) : Below w.heap.size w w3 := by
  have hs := hb.size
  have hs1 := h1.size
  have hs3 := hg.size
  rw [Deep.nblk_alloc] at hs3
  exact ⟨(hg.os.trans h1.os).trans hb.os, (hg.tape.trans h1.tape).trans hb.tape, (hg.output.trans h1.output).trans hb.output, by omega, fun k hk => (((hg.block k (by rw [Deep.nblk_alloc]; omega) (fun e => by have := (own_some hx k e.symm).1; omega)).trans (Deep.blk_alloc_lt _ _ _ (by omega))).trans (h1.block k (by omega))).trans (hb.block k hk)⟩

set_option maxRecDepth 100000 in
set_option maxHeartbeats 1600000 in
theorem l3Copy_calls (g : List Ce) (v : Value) (w : World) (hk : CIn w g v) (hg : ∃ defs, graphB g defs = true) : Calls Tryd.prog 97 #[v] w (CopyRes g w) := by
  have HK : Hid (CIn w g v) := hk
  obtain ⟨defs, hg⟩ := hg
  have HG : Hid (graphB g defs = true) := hg
  obtain ⟨ad, cap, rfl, hl, hm, -⟩ := hk
  unfold maxLen at hm
  have h400 : g.length ≤ 400 := graphB_len hg
  clear hg
  go_enter Tryd.func97, Tryd.ntmps97
  go_wp2_with fail
  have HST : Hid (OwnC (w.alloc (.cells #[] 64)) w.heap.size (fun b => w.heap.size ≤ b) (g.take 0) (.slice (some ⟨w.heap.size, 0, none⟩) 0 0)) :=
    ⟨fun i h => absurd h (by simp), [], fun _ => 0, ⟨rfl, Or.inr ⟨w.heap.size, 0, #[], rfl, Nat.le_refl _, Deep.blk_alloc_new _ _, Nat.le_refl _, by simp [maxLen], rfl, rfl⟩⟩, fun j hj => absurd hj (by simp), fun i j hi _ => absurd hi (by simp)⟩
  go_loopw [3, 4] (fun out i wr => ∃ k : Nat, k ≤ g.length ∧ i = .int .i64 k ∧ OwnC wr w.heap.size (fun b => w.heap.size ≤ b) (g.take k) out ∧ Below w.heap.size w wr) (fun _ i _ => g.length - (intOf i).toNat)
  case atStart => exact ⟨0, Nat.zero_le _, rfl, HST.out, box_below _ _⟩
  case round =>
    obtain ⟨k, hk, rfl, hown, hb⟩ := hrel
    have HO : Hid (OwnC wr w.heap.size (fun b => w.heap.size ≤ b) (g.take k) u3) := hown
    have HB : Hid (Below w.heap.size w wr) := hb
    have hsz := hb.size
    by_cases hlt : k < g.length
    · obtain ⟨bl, off, r2, rfl, c0w, c1w, c2w, io, iN, hkk⟩ := HK.out.at k hlt
      have HKK : Hid (IIn wr g[k].kids r2) := hkk.next hb
      have HLW : Hid (bl < w.heap.size) := cell_lt c0w
      have c0 := (hb.cell (p := ⟨bl, off + k * 3, none⟩) HLW.out).trans c0w
      have c1 := (hb.cell (p := ⟨bl, off + k * 3 + 1, none⟩) HLW.out).trans c1w
      have c2 := (hb.cell (p := ⟨bl, off + k * 3 + 2, none⟩) HLW.out).trans c2w
      have HC : Hid (w.cell? ⟨bl, off + k * 3, none⟩ = some (.int .i64 g[k].op) ∧ w.cell? ⟨bl, off + k * 3 + 1, none⟩ = some (.int .i64 g[k].num) ∧ w.cell? ⟨bl, off + k * 3 + 2, none⟩ = some r2) := ⟨c0w, c1w, c2w⟩
      clear c0w c1w c2w
      have HIO : Hid (I64 g[k].op ∧ I64 g[k].num) := ⟨io, iN⟩
      have lg := cell_lt c0
      have HTL : Hid ((g.take k).length = k) := by rw [Hid, List.length_take]; omega
      obtain ⟨adk, capk, rfl, -, -, -⟩ := id hkk
      clear hown hb hkk io iN
      obtain ⟨xs, hx⟩ := HO.out.row
      rw [HTL.out] at hx
      have HX : Hid (wr.ownsRow w.heap.size 64 3 u3 k xs) := hx
      obtain ⟨iC, zC, hII⟩ := infoC1
      have HII : Hid (Tryd.prog.info? 64 = some iC ∧ iC.zero = some zC ∧ iC.size = 3 ∧ iC.bytes = 40 ∧ zC.cells.size = 3) := hII
      have HK3 : Hid (g[k].kids.length ≤ 3) := (kids_graph HG.out k hlt).1
      have HKN : Hid ((kidsN g k).length = g[k].kids.length) := by rw [Hid, kidsN_at k hlt]; simp
      clear hII hx
      go_wp2_with fail
      go_region_held3 (fun w' => w'.cell? ⟨bl, off + k * 3, none⟩ = some (.int .i64 g[k].op) ∧ w'.cell? ⟨bl, off + k * 3 + 1, none⟩ = some (.int .i64 g[k].num) ∧ w'.cell? ⟨bl, off + k * 3 + 2, none⟩ = some (.slice adk g[k].kids.length capk))
        (first
          | go_keep
          | exact ⟨e0, e1, e2⟩
          | exact ⟨d0, d1, d2⟩
          | exact ⟨old_cell d0 _, old_cell d1 _, old_cell d2 _⟩
          | exact ⟨old_cell c0 _, old_cell c1 _, old_cell c2 _⟩)
        (first
          | (refine step_push (by rfl) (.tmp 23) (.tmp 28) (by rfl) wr.heap.size [] (kidsN g k) (.slice (some ⟨wr.heap.size, 0, none⟩) 0 0) (.slice adk g[k].kids.length capk) (by rfl) (stk_zero (Deep.blk_alloc_new wr _) (Nat.le_refl _)) (by rfl) (HKK.out.next ((box_below wr _).drew)) (kids_back HG.out k hlt) (by show wr.heap.size ≤ (wr.alloc _).heap.size; rw [Deep.nblk_alloc]; omega) (by rw [HKN.out]; have := HK3.out; simp only [List.length_nil]; omega) ?_; intro v1 w1 hst1 hg1; have HB1 : Hid (Below wr.heap.size wr w1) := copy_below hg1; have HST1 : Hid (Stk w1 wr.heap.size (kidsN g k) v1) := hst1; obtain ⟨ad1, cap1, rfl⟩ := stk_len2 hst1 HKN.out; have d0 := (HB1.out.cell (p := ⟨bl, off + k * 3, none⟩) lg).trans c0; have d1 := (HB1.out.cell (p := ⟨bl, off + k * 3 + 1, none⟩) lg).trans c1; have d2 := (HB1.out.cell (p := ⟨bl, off + k * 3 + 2, none⟩) lg).trans c2; clear hst1 hg1)
          | (refine step_append_where (by rfl) (.tmp 12) (.tmp 31) 57 (by rfl) w.heap.size 64 iC zC 3 40 Tryd.underlying57 HII.out.1 HII.out.2.1 HII.out.2.2.1 HII.out.2.2.2.1 HII.out.2.2.2.2 (by decide) u3 k xs (by rfl) (copy_own HX.out HB1.out _) ⟨w1.heap.size, 0, none⟩ 1 1 [.int .i64 g[k].op, .int .i64 g[k].num, .slice ad1 g[k].kids.length cap1] (by rfl) (by rfl) (news3c w1 _ _ _) (by simp [Value.oneCell']) (by unfold maxLen; omega) (by omega) (by show w.heap.size ≤ (w1.alloc _).heap.size; rw [Deep.nblk_alloc]; have := HB1.out.size; omega) (by omega) ?_; intro v3 w3 hown3 hg3 hw3; have HOWN3 : Hid (w3.ownsRow w.heap.size 64 3 v3 (k + 1) (xs ++ [.int .i64 g[k].op, .int .i64 g[k].num, .slice ad1 g[k].kids.length cap1])) := hown3; have HG3 : Hid ((w1.alloc (.cells #[.int .i64 g[k].op, .int .i64 g[k].num, .slice ad1 g[k].kids.length cap1] 64)).grownBy w3 u3.ownBlock) := hg3; have HB3 : Hid (Below w.heap.size w w3) := copy_below3 HB.out HB1.out HX.out hg3; have e0 := (HB3.out.cell (p := ⟨bl, off + k * 3, none⟩) HLW.out).trans HC.out.1; have e1 := (HB3.out.cell (p := ⟨bl, off + k * 3 + 1, none⟩) HLW.out).trans HC.out.2.1; have e2 := (HB3.out.cell (p := ⟨bl, off + k * 3 + 2, none⟩) HLW.out).trans HC.out.2.2; clear hown3 hg3 hw3))
      go_wp2_with fail
      go_roundw
      case rel =>
        refine ⟨k + 1, by omega, by go_num, ?_, HB3.out⟩
        have h := copy_push (G := g.take k) (ws := kidsN g k) (o := g[k].op) (n := g[k].num) HO.out HB.out.size HB1.out HST1.out _ (by rw [HTL.out]; exact copy_own HX.out HB1.out _) (by rw [HTL.out]; exact HOWN3.out) HG3.out HIO.out.1 HIO.out.2
        rw [← kids_back HG.out k hlt] at h
        rw [List.take_succ_eq_append_getElem hlt]
        exact h
      case measure => simp [intOf]; omega
    · have hke : k = g.length := by omega
      have HE : Hid (OwnC wr w.heap.size (fun b => w.heap.size ≤ b) g u3) := by
        have h := HO.out
        rw [hke, List.take_length] at h
        exact h
      clear hown hb hke
      go_wp2_with fail
      go_ret
      exact ⟨_, rfl, HE.out, HB.out⟩
end Go.Proofs.YtjpjikfmdaejeaaDoor
/-
  SMALL FACTS for the model's BuildGraph and AddExpr.
-/
namespace Go.Proofs.YtjpjikfmdaejeaaDoor
set_option linter.unusedVariables false
set_option linter.unusedSimpArgs false
open Go.RowKit

theorem below_grown {w w1 w2 : World} {v : Value} (hb : Below w.heap.size w w1) (h : w1.grownBy w2 v.ownBlock) (ho : ∀ k, v.ownBlock = some k → w.heap.size ≤ k) : Below w.heap.size w w2 :=
  ⟨h.os.trans hb.os, h.tape.trans hb.tape, h.output.trans hb.output, Nat.le_trans hb.size h.size, fun k hk => (h.block k (Nat.lt_of_lt_of_le hk hb.size) fun e => by have := ho k e.symm; omega).trans (hb.block k hk)⟩
theorem validB_small {t : Tr} {vars defs : Int} (h : validB t vars defs = true) : 1 + szT t ≤ 60 ∧ shB vars defs 16 t = true ∧ 0 ≤ vars ∧ vars ≤ 4 := by
  unfold validB at h
  simp only [Bool.and_eq_true, decide_eq_true_eq] at h
  exact ⟨h.2.2, h.2.1, h.1.1, h.1.2.1⟩

end Go.Proofs.YtjpjikfmdaejeaaDoor
