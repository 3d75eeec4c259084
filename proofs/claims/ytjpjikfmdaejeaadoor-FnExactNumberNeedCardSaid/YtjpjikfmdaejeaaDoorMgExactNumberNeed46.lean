/-
  THE PROGRAM's arenaOf: a copy of a graph's cells.
-/
import Derived.Test.YtjpjikfmdaejeaaDoorMgExactNumberNeed45
import Derived.Test.YtjpjikfmdaejeaaDoorMgExactNumberNeed37
import Derived.Test.YtjpjikfmdaejeaaDoorMgExactNumberNeed38
import Derived.Deep.RegionHeld3
import Derived.Test.YtjpjikfmdaejeaaDoorMgExactNumberNeed42
import Derived.Test.YtjpjikfmdaejeaaDoorMgExactNumberNeed32
namespace Go.Proofs.YtjpjikfmdaejeaaDoor
set_option linter.unusedVariables false
set_option linter.unusedSimpArgs false
open Go.RowKit

/-- what holds behind some cells -/
def ArRel (lo A : Nat) (w : World) (G : List Ce) (wr : World) : Prop := ∃ gv, OwnC wr lo (fun b => lo ≤ b) G gv ∧ wr.heap[A]? = some (.cells #[gv] 97) ∧ Below w.heap.size w wr
theorem arena_push {w wr w1 w' : World} {lo A : Nat} {G : List Ce} {gv kv : Value} {ws : List Nat} {o m : Int} {xs : List Value} {e : Ending} (h : OwnC wr lo (fun b => lo ≤ b) G gv) (hA : wr.heap[A]? = some (.cells #[gv] 97)) (hw : Below w.heap.size w wr) (hwl : w.heap.size ≤ lo) (hlo : lo ≤ wr.heap.size) (hlA : lo ≤ A) (hb : Below wr.heap.size wr w1) (hst : Stk w1 wr.heap.size ws kv)
    (hx : w1.ownsRow lo 64 3 gv G.length xs) (ho : I64 o) (hm : I64 m) (hr : Added A lo G.length o m gv kv xs w1 e w') : e = .returned (.int .i64 (G.length : Int)) ∧ ArRel lo A w (G ++ [⟨o, m, ws.map fun (a : Nat) => (a : Int)⟩]) w' := by
  obtain ⟨v', w5, rfl, hown, hg, hwv, rfl⟩ := hr
  have hAl : A < wr.heap.size := (Array.getElem?_eq_some_iff.1 hA).1
  have hs1 := hb.size
  have hp := copy_push h hlo (hb.alloc hs1 (.cells #[.int .i64 o, .int .i64 m, kv] 64)) (hst.alloc _) _ (own_keep (own_keep hx (fun k _ hk => Deep.blk_alloc_lt _ _ _ hk)) (fun k _ hk => Deep.blk_alloc_lt _ _ _ hk)) hown hg ho hm
  have hA1 : w1.heap[A]? = some (.cells #[gv] 97) := (hb.block A hAl).trans hA
  have hA5 : w5.heap[A]? = some (.cells #[gv] 97) := ar_keep hA1 hx hg
  have hAv : some A ≠ v'.ownBlock := cells_ne_arena hA5 hown
  have hs5 := hg.size
  rw [Deep.nblk_alloc, Deep.nblk_alloc] at hs5
  have hsw := hw.size
  refine ⟨rfl, v', hp.next2 (fun _ h _ => h) (fun b e hb => Below.heap_setCell _ _ _ _ (fun e2 => hAv (by have e3 : b = A := e2; rw [← e3]; exact e))) (fun b C hS hb hC => Below.heap_setCell _ _ _ _ (fun e2 => ?_)), ?_, ⟨?_, ?_, ?_, ?_, ?_⟩⟩
  · have e3 : b = A := e2
    subst e3
    rw [hA5] at hC
    simp at hC
  · simp [World.setCell, Array.getElem?_modify, hA5]
  · show w5.os = w.os
    exact (hg.os.trans hb.os).trans hw.os
  · show w5.tape = w.tape
    exact (hg.tape.trans hb.tape).trans hw.tape
  · show w5.output = w.output
    exact (hg.output.trans hb.output).trans hw.output
  · rw [size_setCell]; omega
  · intro k hk
    rw [Below.heap_setCell _ _ _ _ (by show k ≠ A; omega), hg.block k (by rw [Deep.nblk_alloc, Deep.nblk_alloc]; omega) (fun e => by have := (own_some hx k e.symm).1; omega), Deep.blk_alloc_lt _ _ _ (by rw [Deep.nblk_alloc]; omega), Deep.blk_alloc_lt _ _ _ (by omega), hb.block k (by omega)]
    exact hw.block k hk

theorem stk_down {w : World} {lo lo' : Nat} {ws : List Nat} {v : Value} (h : Stk w lo ws v) (hl : lo' ≤ lo) : Stk w lo' ws v := by
  refine ⟨h.1, ?_⟩
  rcases h.2 with h | ⟨g, cap, cur, rfl, hg, r⟩
  · exact Or.inl h
  · exact Or.inr ⟨g, cap, cur, rfl, Nat.le_trans hl hg, r⟩
theorem stk_len3 {w : World} {lo n : Nat} {ws : List Nat} {v : Value} (h : Stk w lo ws v) (hn : ws.length = n) : ∃ ad cap, v = .slice ad n cap := by
  obtain ⟨a, c, e⟩ := h.len
  exact ⟨a, c, by rw [e, hn]⟩
theorem added_keep {A lo n : Nat} {o m : Int} {gv kv : Value} {xs : List Value} {w : World} {e : Ending} {w' : World} (h : Added A lo n o m gv kv xs w e w') (b : Nat) (hb : b < w.heap.size) (hn : some b ≠ gv.ownBlock) (hA : b ≠ A) : w'.heap[b]? = w.heap[b]? := by
  obtain ⟨v', w5, rfl, -, hg, -, rfl⟩ := h
  rw [Below.heap_setCell _ _ _ _ hA, hg.block b (by rw [Deep.nblk_alloc, Deep.nblk_alloc]; omega) hn, Deep.blk_alloc_lt _ _ _ (by rw [Deep.nblk_alloc]; omega), Deep.blk_alloc_lt _ _ _ hb]
/-- the arena, at the caller's next block -/
def ArenaRes (g : List Ce) (w : World) (e : Ending) (w' : World) : Prop := e = .returned (.pointer (some ⟨w.heap.size, 0, none⟩)) ∧ ArRel w.heap.size w.heap.size w g w'
set_option maxRecDepth 100000 in
set_option maxHeartbeats 1600000 in
theorem arenaOf_calls (g : List Ce) (v : Value) (w : World) (hk : CIn w g v) (hg : ∃ defs, graphB g defs = true) : Calls Tryd.prog 56 #[v] w (ArenaRes g w) := by
  have HK : Hid (CIn w g v) := hk
  obtain ⟨defs, hg⟩ := hg
  have HG : Hid (graphB g defs = true) := hg
  obtain ⟨ad, cap, rfl, hl, hm, -⟩ := hk
  unfold maxLen at hm
  have h400 : g.length ≤ 400 := graphB_len hg
  clear hg
  have HST : Hid (ArRel w.heap.size w.heap.size w (g.take 0) (w.alloc (.cells #[.slice none 0 0] 97))) := ⟨_, OwnC.nil _ _ _, Deep.blk_alloc_new _ _, box_below _ _⟩
  go_enter Tryd.func56, Tryd.ntmps56
  go_wp2_with fail
  go_loopw [10] (fun i wr => ∃ k : Nat, k ≤ g.length ∧ i = .int .i64 k ∧ ArRel w.heap.size w.heap.size w (g.take k) wr) (fun i _ => g.length - (intOf i).toNat)
  case atStart => exact ⟨0, Nat.zero_le _, rfl, HST.out⟩
  case round =>
    obtain ⟨k, hk, rfl, hrel⟩ := hrel
    have HR : Hid (ArRel w.heap.size w.heap.size w (g.take k) wr) := hrel
    obtain ⟨gv, hog, hA, hb⟩ := hrel
    by_cases hlt : k < g.length
    · obtain ⟨bl, off, r2, rfl, c0w, c1w, c2w, io, iN, hkk⟩ := HK.out.at k hlt
      have HLW : Hid (bl < w.heap.size) := cell_lt c0w
      have c0 := (hb.cell (p := ⟨bl, off + k * 3, none⟩) HLW.out).trans c0w
      have c1 := (hb.cell (p := ⟨bl, off + k * 3 + 1, none⟩) HLW.out).trans c1w
      have c2 := (hb.cell (p := ⟨bl, off + k * 3 + 2, none⟩) HLW.out).trans c2w
      have HIO : Hid (I64 g[k].op ∧ I64 g[k].num) := ⟨io, iN⟩
      have HKK : Hid (IIn wr ((kidsN g k).map fun (a : Nat) => (a : Int)) r2) := by rw [← kids_back HG.out k hlt]; exact hkk.next hb
      have HK3 : Hid (g[k].kids.length ≤ 3) := (kids_graph HG.out k hlt).1
      have HKN : Hid ((kidsN g k).length = g[k].kids.length) := by rw [Hid, kidsN_at k hlt]; simp
      have HTL : Hid ((g.take k).length = k) := by rw [Hid, List.length_take]; omega
      obtain ⟨adk, capk, rfl, -, -, -⟩ := id hkk
      have HOG : Hid (OwnC wr w.heap.size (fun b => w.heap.size ≤ b) (g.take k) gv) := hog
      have HAA : Hid (wr.heap[w.heap.size]? = some (.cells #[gv] 97)) := hA
      have HB : Hid (Below w.heap.size w wr) := hb
      clear hkk io iN c0w c1w c2w hog hA hb
      obtain ⟨xs, hx⟩ := HOG.out.row
      have HX : Hid (wr.ownsRow w.heap.size 64 3 gv (g.take k).length xs) := hx
      have b0 := box_cell wr #[.int .i64 g[k].op, .int .i64 g[k].num, .slice adk g[k].kids.length capk] 64 0 _ rfl
      have b1 := box_cell wr #[.int .i64 g[k].op, .int .i64 g[k].num, .slice adk g[k].kids.length capk] 64 1 _ rfl
      have b2 := box_cell wr #[.int .i64 g[k].op, .int .i64 g[k].num, .slice adk g[k].kids.length capk] 64 2 _ rfl
      clear hx
      go_wp2_with fail
      go_region_held3 (fun w' => w'.cell? ⟨wr.heap.size, 0, none⟩ = some (.int .i64 g[k].op) ∧ w'.cell? ⟨wr.heap.size, 1, none⟩ = some (.int .i64 g[k].num) ∧ w'.cell? ⟨wr.heap.size, 2, none⟩ = some (.slice adk g[k].kids.length capk))
        (first
          | go_keep
          | exact ⟨e0, e1, e2⟩
          | exact ⟨d0, d1, d2⟩
          | exact ⟨b0, b1, b2⟩)
        (first
          | (go_at_call 80; refine (cloneI_calls (kidsN g k) _ ((wr.alloc (.cells #[.int .i64 g[k].op, .int .i64 g[k].num, .slice adk g[k].kids.length capk] 64)).drew) (HKK.out.next ((box_below wr _).drew)) (by rw [HKN.out]; have := HK3.out; omega)).mono ?_; rintro e w1 ⟨v1, rfl, hst1, hb1⟩; have HB1 : Hid (Below wr.heap.size wr w1) := ((box_below wr _).drew).trans (hb1.mono (by show wr.heap.size ≤ (wr.alloc _).heap.size; rw [Deep.nblk_alloc]; omega)); have HST1 : Hid (Stk w1 wr.heap.size (kidsN g k) v1) := stk_down hst1 (by show wr.heap.size ≤ (wr.alloc _).heap.size; rw [Deep.nblk_alloc]; omega); have hbx := (hb1.block wr.heap.size (by show wr.heap.size < (wr.alloc _).heap.size; rw [Deep.nblk_alloc]; omega)).trans (Deep.blk_alloc_new wr _); have HBX := mkHid hbx; have d0 := cell_of_blk hbx 0 _ rfl; have d1 := cell_of_blk hbx 1 _ rfl; have d2 := cell_of_blk hbx 2 _ rfl; obtain ⟨ad1, cap1, rfl⟩ := stk_len3 hst1 HKN.out; clear hst1 hb1 hbx)
          | (go_at_call 79; refine (add_calls w.heap.size w.heap.size (g.take k).length g[k].op g[k].num gv ad1 g[k].kids.length cap1 xs w1 ((HB1.out.block _ (cellsOf_lt HAA.out)).trans HAA.out) (own_keep HX.out (fun b _ hb => HB1.out.block b hb)) (Nat.le_trans HB.out.size HB1.out.size) (by rw [HTL.out]; omega)).mono ?_; rintro e w5 hr; have hk5 := added_keep hr wr.heap.size (cellsOf_lt HBX.out) (fun e => by have := (own_some HX.out _ e.symm).2; omega) (by have := cellsOf_lt HAA.out; omega); have hbx5 := hk5.trans HBX.out; have e0 := cell_of_blk hbx5 0 _ rfl; have e1 := cell_of_blk hbx5 1 _ rfl; have e2 := cell_of_blk hbx5 2 _ rfl; have hp := arena_push (w := w) (ws := kidsN g k) HOG.out HAA.out HB.out (Nat.le_refl _) HB.out.size (Nat.le_refl _) HB1.out HST1.out (own_keep HX.out (fun b _ hb => HB1.out.block b hb)) HIO.out.1 HIO.out.2 hr; obtain ⟨rfl, hrel5⟩ := hp; have HREL5 := mkHid hrel5; clear hr hk5 hbx5 hrel5))
      go_wp2_with fail
      go_roundw
      case rel =>
        refine ⟨k + 1, by omega, by go_num, ?_⟩
        have h := HREL5.out
        rw [← kids_back HG.out k hlt] at h
        rw [List.take_succ_eq_append_getElem hlt]
        exact h
      case measure => simp [intOf]; omega
    · have hke : k = g.length := by omega
      have HE : Hid (ArRel w.heap.size w.heap.size w g wr) := by
        have h := HR.out
        rw [hke, List.take_length] at h
        exact h
      clear hke hog hA hb
      go_wp2_with fail
      go_ret
      exact ⟨rfl, HE.out⟩
end Go.Proofs.YtjpjikfmdaejeaaDoor
/-
  THE MODEL's StepGraph.
-/
namespace Go.Proofs.YtjpjikfmdaejeaaDoor
set_option linter.unusedVariables false
set_option linter.unusedSimpArgs false
open Go.RowKit

/-- what StepGraph answers -/
def stO (ds : List Df) (g : List Ce) (a : Int) : List Ce × Nat := if rightB ds g a = true then (if valB (arsOf ds) g a.toNat = true then (g, 0) else stepG ds g a.toNat) else ([], 4)
theorem stO_no {ds : List Df} {g : List Ce} {a : Int} (h : rightB ds g a = false) : stO ds g a = ([], 4) := by unfold stO; rw [if_neg (by rw [h]; simp)]
theorem stO_val {ds : List Df} {g : List Ce} {a : Nat} (h : rightB ds g (a : Int) = true) (hv : valB (arsOf ds) g a = true) : stO ds g (a : Int) = (g, 0) := by unfold stO; rw [if_pos h, Int.toNat_natCast, if_pos hv]
theorem stO_step {ds : List Df} {g : List Ce} {a : Nat} (h : rightB ds g (a : Int) = true) (hv : valB (arsOf ds) g a = false) : stO ds g (a : Int) = stepG ds g a := by unfold stO; rw [if_pos h, Int.toNat_natCast, if_neg (by rw [hv]; simp)]

end Go.Proofs.YtjpjikfmdaejeaaDoor
/-
  THE MODEL's EvalGraph.
-/
namespace Go.Proofs.YtjpjikfmdaejeaaDoor
set_option linter.unusedVariables false
set_option linter.unusedSimpArgs false
open Go.RowKit

/-- what EvalGraph answers -/
def evO (ds : List Df) (g : List Ce) (a fuel : Int) : List Ce × Nat × Nat := if rightB ds g a = true ∧ 0 ≤ fuel ∧ fuel ≤ 300 then evalG ds a.toNat fuel.toNat g else ([], 4, 0)
theorem evO_no {ds : List Df} {g : List Ce} {a fuel : Int} (h : ¬ (rightB ds g a = true ∧ 0 ≤ fuel ∧ fuel ≤ 300)) : evO ds g a fuel = ([], 4, 0) := by unfold evO; rw [if_neg h]
theorem evO_yes {ds : List Df} {g : List Ce} {a fuel : Nat} (h : rightB ds g (a : Int) = true) (hf : fuel ≤ 300) : evO ds g (a : Int) (fuel : Int) = evalG ds a fuel g := by
  unfold evO; rw [if_pos ⟨h, by omega, by omega⟩, Int.toNat_natCast, Int.toNat_natCast]

end Go.Proofs.YtjpjikfmdaejeaaDoor
/-
  THE PROGRAM's StepGraph AND EvalGraph.
-/
namespace Go.Proofs.YtjpjikfmdaejeaaDoor
set_option linter.unusedVariables false
set_option linter.unusedSimpArgs false
open Go.RowKit

/-- a graph in rows of its own, and a code -/
def GotG (r : List Ce × Nat) (w : World) (e : Ending) (w' : World) : Prop := ∃ v, e = .returned (.tuple #[v, .int .i64 (r.2 : Int)]) ∧ OwnC w' w.heap.size (fun k => w.heap.size ≤ k) r.1 v ∧ Below w.heap.size w w'
def GotG3 (r : List Ce × Nat × Nat) (w : World) (e : Ending) (w' : World) : Prop := ∃ v, e = .returned (.tuple #[v, .int .i64 (r.2.1 : Int), .int .i64 (r.2.2 : Int)]) ∧ OwnC w' w.heap.size (fun k => w.heap.size ≤ k) r.1 v ∧ Below w.heap.size w w'
/-- the new reducer -/
theorem redW_new {w1 w2 : World} {g : List Ce} (h : ArRel w1.heap.size w1.heap.size w1 g w2) (c : Value) (fu st : Int) :
    RedW w2.heap.size w1.heap.size w1.heap.size c fu st g (w2.alloc (.cells #[.pointer (some ⟨w1.heap.size, 0, none⟩), c, .int .i64 fu, .int .i64 st] 80)) := by
  obtain ⟨gv, h1, h2, h3⟩ := h
  have hs := h3.size
  have hlt := (Array.getElem?_eq_some_iff.1 h2).1
  obtain ⟨ad, cap, rfl⟩ := h1.form
  exact ⟨Deep.blk_alloc_new _ _, ⟨ad, cap, (Deep.blk_alloc_lt _ _ _ hlt).trans h2, h1.next (fun _ h _ => h) (fun k _ hz => Deep.blk_alloc_lt _ _ _ hz) (fun k _ hz => Deep.blk_alloc_lt _ _ _ hz)⟩, by omega, Nat.le_refl _⟩
/-- the graph of a reducer, handed back -/
theorem redW_out {R A lo lo' : Nat} {c : Value} {fu st : Int} {g : List Ce} {w : World} (h : RedW R A lo c fu st g w) (hl : lo' ≤ lo) : ∃ ad cap, w.heap[A]? = some (.cells #[.slice ad g.length cap] 97) ∧ OwnC w lo' (fun k => lo' ≤ k) g (.slice ad g.length cap) := by
  obtain ⟨ad, cap, h1, h2⟩ := h.are
  exact ⟨ad, cap, h1, h2.down hl (fun k hk => Nat.le_trans hl hk)⟩

end Go.Proofs.YtjpjikfmdaejeaaDoor
/-
  THE PROGRAM's EvalGraph.
-/
namespace Go.Proofs.YtjpjikfmdaejeaaDoor
set_option linter.unusedVariables false
set_option linter.unusedSimpArgs false
open Go.RowKit

def fuelB (f : Int) : Bool := decide (0 ≤ f ∧ f ≤ 300)
set_option maxHeartbeats 400000 in
theorem fuelFits_calls (f : Int) (w : World) : Calls Tryd.prog 78 #[.int .i64 f] w fun e w' => e = .returned (.bool (fuelB f)) ∧ w = w' := by
  by_cases h0 : 0 ≤ f
  · by_cases h1 : f ≤ 300
    · have HV : Hid (fuelB f = true) := by rw [Hid, fuelB, decide_eq_true_eq]; exact ⟨h0, h1⟩
      go_enter Tryd.func78, Tryd.ntmps78
      go_wp2_with fail
      go_ret
      exact ⟨ret_bool HV.out.symm, rfl⟩
    · have HV : Hid (fuelB f = false) := by rw [Hid, fuelB, decide_eq_false_iff_not]; rintro ⟨-, h⟩; exact h1 h
      have h1' : decide (f ≤ 300) = false := by simpa using h1
      have h2' : 300 < f := by omega
      go_enter Tryd.func78, Tryd.ntmps78
      go_wp2_with fail
      go_ret
      exact ⟨ret_bool HV.out.symm, rfl⟩
  · have HV : Hid (fuelB f = false) := by rw [Hid, fuelB, decide_eq_false_iff_not]; rintro ⟨h, -⟩; exact h0 h
    have h2' : f < 0 := by omega
    go_enter Tryd.func78, Tryd.ntmps78
    go_wp2_with fail
    go_ret
    exact ⟨ret_bool HV.out.symm, rfl⟩
theorem evalG_code {ds : List Df} {a : Nat} : ∀ (n : Nat) (g : List Ce), (evalG ds a n g).2.1 ≤ 3
  | 0, g => by unfold evalG; split <;> simp
  | n + 1, g => by
    unfold evalG
    split
    · simp
    · split
      · exact evalG_code n _
      · exact stepG_code

end Go.Proofs.YtjpjikfmdaejeaaDoor
