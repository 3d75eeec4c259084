/-
  THE PROGRAM's arenaOf: a copy of a graph's cells.
-/
import Derived.Test.YtiipcgnkfhjpeaaGreatDoorMgExactStepRun40
import Derived.Test.YtiipcgnkfhjpeaaGreatDoorMgExactStepRun31
import Derived.Test.YtiipcgnkfhjpeaaGreatDoorMgExactStepRun32
import Derived.Deep.RegionHeld3
namespace Go.Proofs.YtiipcgnkfhjpeaaGreatDoor
set_option linter.unusedVariables false
set_option linter.unusedSimpArgs false
open Go.RowKit

/-- what holds behind some cells -/
def ArRel (lo A : Nat) (w : World) (G : List Ce) (wr : World) : Prop := ∃ gv, OwnC wr lo (fun b => lo ≤ b) G gv ∧ wr.heap[A]? = some (.cells #[gv] 142) ∧ Below w.heap.size w wr
theorem arena_push {w wr w1 w' : World} {lo A : Nat} {G : List Ce} {gv kv : Value} {ws : List Nat} {o m : Int} {xs : List Value} {e : Ending} (h : OwnC wr lo (fun b => lo ≤ b) G gv) (hA : wr.heap[A]? = some (.cells #[gv] 142)) (hw : Below w.heap.size w wr) (hwl : w.heap.size ≤ lo) (hlo : lo ≤ wr.heap.size) (hlA : lo ≤ A) (hb : Below wr.heap.size wr w1) (hst : Stk w1 wr.heap.size ws kv)
    (hx : w1.ownsRow lo 93 3 gv G.length xs) (ho : I64 o) (hm : I64 m) (hr : Added A lo G.length o m gv kv xs w1 e w') : e = .returned (.int .i64 (G.length : Int)) ∧ ArRel lo A w (G ++ [⟨o, m, ws.map fun (a : Nat) => (a : Int)⟩]) w' := by
  obtain ⟨v', w5, rfl, hown, hg, hwv, rfl⟩ := hr
  have hAl : A < wr.heap.size := (Array.getElem?_eq_some_iff.1 hA).1
  have hs1 := hb.size
  have hp := copy_push h hlo (hb.alloc hs1 (.cells #[.int .i64 o, .int .i64 m, kv] 93)) (hst.alloc _) _ (own_keep (own_keep hx (fun k _ hk => Deep.blk_alloc_lt _ _ _ hk)) (fun k _ hk => Deep.blk_alloc_lt _ _ _ hk)) hown hg ho hm
  have hA1 : w1.heap[A]? = some (.cells #[gv] 142) := (hb.block A hAl).trans hA
  have hA5 : w5.heap[A]? = some (.cells #[gv] 142) := ar_keep hA1 hx hg
  have hAv : some A ≠ v'.ownBlock := cells_ne_arena hA5 hown
  have hs5 := hg.size
  rw [Deep.nblk_alloc, Deep.nblk_alloc] at hs5
  have hsw := hw.size
  refine ⟨rfl, v', hp.next2 (fun _ h _ => h) (fun b e hb => Below.heap_setCell _ _ _ _ (fun e2 => hAv (by have e3 : b = A := e2; rw [← e3]; exact e))) (fun b C hS hb hC => Below.heap_setCell _ _ _ _ (fun e2 => ?_)), ?_, ⟨?_, ?_, ?_, ?_, ?_⟩⟩
  · have e3 : b = A := e2
    subst e3
    rw [hA5] at hC
    simp at hC
  · simp [World.setCell, Array.getElem?_modify, hA5]
  · show w5.os = w.os
    exact (hg.os.trans hb.os).trans hw.os
  · show w5.tape = w.tape
    exact (hg.tape.trans hb.tape).trans hw.tape
  · show w5.output = w.output
    exact (hg.output.trans hb.output).trans hw.output
  · rw [size_setCell]; omega
  · intro k hk
    rw [Below.heap_setCell _ _ _ _ (by show k ≠ A; omega), hg.block k (by rw [Deep.nblk_alloc, Deep.nblk_alloc]; omega) (fun e => by have := (own_some hx k e.symm).1; omega), Deep.blk_alloc_lt _ _ _ (by rw [Deep.nblk_alloc]; omega), Deep.blk_alloc_lt _ _ _ (by omega), hb.block k (by omega)]
    exact hw.block k hk

theorem stk_down {w : World} {lo lo' : Nat} {ws : List Nat} {v : Value} (h : Stk w lo ws v) (hl : lo' ≤ lo) : Stk w lo' ws v := by
  refine ⟨h.1, ?_⟩
  rcases h.2 with h | ⟨g, cap, cur, rfl, hg, r⟩
  · exact Or.inl h
  · exact Or.inr ⟨g, cap, cur, rfl, Nat.le_trans hl hg, r⟩
theorem stk_len3 {w : World} {lo n : Nat} {ws : List Nat} {v : Value} (h : Stk w lo ws v) (hn : ws.length = n) : ∃ ad cap, v = .slice ad n cap := by
  obtain ⟨a, c, e⟩ := h.len
  exact ⟨a, c, by rw [e, hn]⟩
theorem added_keep {A lo n : Nat} {o m : Int} {gv kv : Value} {xs : List Value} {w : World} {e : Ending} {w' : World} (h : Added A lo n o m gv kv xs w e w') (b : Nat) (hb : b < w.heap.size) (hn : some b ≠ gv.ownBlock) (hA : b ≠ A) : w'.heap[b]? = w.heap[b]? := by
  obtain ⟨v', w5, rfl, -, hg, -, rfl⟩ := h
  rw [Below.heap_setCell _ _ _ _ hA, hg.block b (by rw [Deep.nblk_alloc, Deep.nblk_alloc]; omega) hn, Deep.blk_alloc_lt _ _ _ (by rw [Deep.nblk_alloc]; omega), Deep.blk_alloc_lt _ _ _ hb]
/-- the arena, at the caller's next block -/
def ArenaRes (g : List Ce) (w : World) (e : Ending) (w' : World) : Prop := e = .returned (.pointer (some ⟨w.heap.size, 0, none⟩)) ∧ ArRel w.heap.size w.heap.size w g w'
set_option maxRecDepth 100000 in
set_option maxHeartbeats 1600000 in
theorem arenaOf_calls (g : List Ce) (v : Value) (w : World) (hk : CIn w g v) (hg : ∃ defs, graphB g defs = true) : Calls Tryz.prog 79 #[v] w (ArenaRes g w) := by
  have HK : Hid (CIn w g v) := hk
  obtain ⟨defs, hg⟩ := hg
  have HG : Hid (graphB g defs = true) := hg
  obtain ⟨ad, cap, rfl, hl, hm, -⟩ := hk
  unfold maxLen at hm
  have h400 : g.length ≤ 400 := graphB_len hg
  clear hg
  have HST : Hid (ArRel w.heap.size w.heap.size w (g.take 0) (w.alloc (.cells #[.slice none 0 0] 142))) := ⟨_, OwnC.nil _ _ _, Deep.blk_alloc_new _ _, box_below _ _⟩
  go_enter Tryz.func79, Tryz.ntmps79
  go_wp2_with fail
  go_loopw [10] (fun i wr => ∃ k : Nat, k ≤ g.length ∧ i = .int .i64 k ∧ ArRel w.heap.size w.heap.size w (g.take k) wr) (fun i _ => g.length - (intOf i).toNat)
  case atStart => exact ⟨0, Nat.zero_le _, rfl, HST.out⟩
  case round =>
    obtain ⟨k, hk, rfl, hrel⟩ := hrel
    have HR : Hid (ArRel w.heap.size w.heap.size w (g.take k) wr) := hrel
    obtain ⟨gv, hog, hA, hb⟩ := hrel
    by_cases hlt : k < g.length
    · obtain ⟨bl, off, r2, rfl, c0w, c1w, c2w, io, iN, hkk⟩ := HK.out.at k hlt
      have HLW : Hid (bl < w.heap.size) := cell_lt c0w
      have c0 := (hb.cell (p := ⟨bl, off + k * 3, none⟩) HLW.out).trans c0w
      have c1 := (hb.cell (p := ⟨bl, off + k * 3 + 1, none⟩) HLW.out).trans c1w
      have c2 := (hb.cell (p := ⟨bl, off + k * 3 + 2, none⟩) HLW.out).trans c2w
      have HIO : Hid (I64 g[k].op ∧ I64 g[k].num) := ⟨io, iN⟩
      have HKK : Hid (IIn wr ((kidsN g k).map fun (a : Nat) => (a : Int)) r2) := by rw [← kids_back HG.out k hlt]; exact hkk.next hb
      have HK3 : Hid (g[k].kids.length ≤ 3) := (kids_graph HG.out k hlt).1
      have HKN : Hid ((kidsN g k).length = g[k].kids.length) := by rw [Hid, kidsN_at k hlt]; simp
      have HTL : Hid ((g.take k).length = k) := by rw [Hid, List.length_take]; omega
      obtain ⟨adk, capk, rfl, -, -, -⟩ := id hkk
      have HOG : Hid (OwnC wr w.heap.size (fun b => w.heap.size ≤ b) (g.take k) gv) := hog
      have HAA : Hid (wr.heap[w.heap.size]? = some (.cells #[gv] 142)) := hA
      have HB : Hid (Below w.heap.size w wr) := hb
      clear hkk io iN c0w c1w c2w hog hA hb
      obtain ⟨xs, hx⟩ := HOG.out.row
      have HX : Hid (wr.ownsRow w.heap.size 93 3 gv (g.take k).length xs) := hx
      have b0 := box_cell wr #[.int .i64 g[k].op, .int .i64 g[k].num, .slice adk g[k].kids.length capk] 93 0 _ rfl
      have b1 := box_cell wr #[.int .i64 g[k].op, .int .i64 g[k].num, .slice adk g[k].kids.length capk] 93 1 _ rfl
      have b2 := box_cell wr #[.int .i64 g[k].op, .int .i64 g[k].num, .slice adk g[k].kids.length capk] 93 2 _ rfl
      clear hx
      go_wp2_with fail
      go_region_held3 (fun w' => w'.cell? ⟨wr.heap.size, 0, none⟩ = some (.int .i64 g[k].op) ∧ w'.cell? ⟨wr.heap.size, 1, none⟩ = some (.int .i64 g[k].num) ∧ w'.cell? ⟨wr.heap.size, 2, none⟩ = some (.slice adk g[k].kids.length capk))
        (first
          | go_keep
          | exact ⟨e0, e1, e2⟩
          | exact ⟨d0, d1, d2⟩
          | exact ⟨b0, b1, b2⟩)
        (first
          | (go_at_call 99; refine (cloneI_calls (kidsN g k) _ ((wr.alloc (.cells #[.int .i64 g[k].op, .int .i64 g[k].num, .slice adk g[k].kids.length capk] 93)).drew) (HKK.out.next ((box_below wr _).drew)) (by rw [HKN.out]; have := HK3.out; omega)).mono ?_; rintro e w1 ⟨v1, rfl, hst1, hb1⟩; have HB1 : Hid (Below wr.heap.size wr w1) := ((box_below wr _).drew).trans (hb1.mono (by show wr.heap.size ≤ (wr.alloc _).heap.size; rw [Deep.nblk_alloc]; omega)); have HST1 : Hid (Stk w1 wr.heap.size (kidsN g k) v1) := stk_down hst1 (by show wr.heap.size ≤ (wr.alloc _).heap.size; rw [Deep.nblk_alloc]; omega); have hbx := (hb1.block wr.heap.size (by show wr.heap.size < (wr.alloc _).heap.size; rw [Deep.nblk_alloc]; omega)).trans (Deep.blk_alloc_new wr _); have HBX := mkHid hbx; have d0 := cell_of_blk hbx 0 _ rfl; have d1 := cell_of_blk hbx 1 _ rfl; have d2 := cell_of_blk hbx 2 _ rfl; obtain ⟨ad1, cap1, rfl⟩ := stk_len3 hst1 HKN.out; clear hst1 hb1 hbx)
          | (go_at_call 98; refine (add_calls w.heap.size w.heap.size (g.take k).length g[k].op g[k].num gv ad1 g[k].kids.length cap1 xs w1 ((HB1.out.block _ (cellsOf_lt HAA.out)).trans HAA.out) (own_keep HX.out (fun b _ hb => HB1.out.block b hb)) (Nat.le_trans HB.out.size HB1.out.size) (by rw [HTL.out]; omega)).mono ?_; rintro e w5 hr; have hk5 := added_keep hr wr.heap.size (cellsOf_lt HBX.out) (fun e => by have := (own_some HX.out _ e.symm).2; omega) (by have := cellsOf_lt HAA.out; omega); have hbx5 := hk5.trans HBX.out; have e0 := cell_of_blk hbx5 0 _ rfl; have e1 := cell_of_blk hbx5 1 _ rfl; have e2 := cell_of_blk hbx5 2 _ rfl; have hp := arena_push (w := w) (ws := kidsN g k) HOG.out HAA.out HB.out (Nat.le_refl _) HB.out.size (Nat.le_refl _) HB1.out HST1.out (own_keep HX.out (fun b _ hb => HB1.out.block b hb)) HIO.out.1 HIO.out.2 hr; obtain ⟨rfl, hrel5⟩ := hp; have HREL5 := mkHid hrel5; clear hr hk5 hbx5 hrel5))
      go_wp2_with fail
      go_roundw
      case rel =>
        refine ⟨k + 1, by omega, by go_num, ?_⟩
        have h := HREL5.out
        rw [← kids_back HG.out k hlt] at h
        rw [List.take_succ_eq_append_getElem hlt]
        exact h
      case measure => simp [intOf]; omega
    · have hke : k = g.length := by omega
      have HE : Hid (ArRel w.heap.size w.heap.size w g wr) := by
        have h := HR.out
        rw [hke, List.take_length] at h
        exact h
      clear hke hog hA hb
      go_wp2_with fail
      go_ret
      exact ⟨rfl, HE.out⟩
end Go.Proofs.YtiipcgnkfhjpeaaGreatDoor
/-
  THE PROGRAM's selectParts AND SelectGraph.
-/
namespace Go.Proofs.YtiipcgnkfhjpeaaGreatDoor
set_option linter.unusedVariables false
set_option linter.unusedSimpArgs false
open Go.RowKit Go.Maps

def slLenS (v : Value) : Nat := match v with | .slice _ n _ => n | _ => 0
/-- how much is left to do, at most -/
def selLeft (g : List Ce) (m l : Nat) : Nat := (g.countP selB - m) * (g.length + 1) + l
/-- what holds of a round -/
structure SpR (A M lo : Nat) (g : List Ce) (w : World) (m n : Nat) (work : List Nat) (wt : Nat → List Nat) (G : List Ce) (S : Nat → Prop) (gv wv : Value) (wr : World) : Prop where
  rel : SelR g G m
  wl : WL G work wt
  mem : SpM A M lo n work wt G S gv wv wr
  bel : Below lo w wr
  num : n + selLeft g m work.length ≤ 200000
/-- what selectParts leaves -/
def SelDone (A lo : Nat) (r : List Ce × Nat) (w : World) (e : Ending) (w' : World) : Prop :=
  e = .returned (.int .i64 (r.2 : Int)) ∧ ∃ ad cap, w'.heap[A]? = some (.cells #[.slice ad r.1.length cap] 142) ∧ OwnC w' lo (fun b => lo ≤ b) r.1 (.slice ad r.1.length cap) ∧ Below lo w w'
theorem sel_le {g G : List Ce} {m : Nat} (hg : graphB g 6 = true) (h : SelR g G m) : m ≤ g.countP selB ∧ g.countP selB ≤ g.length := by
  have := (selR_inv hg h).cnt
  exact ⟨by omega, List.countP_le_length⟩
/-- one less to do: a cell is dropped, or waits -/
theorem left_drop {g : List Ce} {m n l : Nat} (h : n + selLeft g m (l + 1) ≤ 200000) : n + 1 + selLeft g m l ≤ 200000 ∧ n + selLeft g m l ≤ 200000 := by unfold selLeft at *; omega
theorem left_make {g : List Ce} {m n l l' : Nat} (h : n + selLeft g m (l + 1) ≤ 200000) (hm : m < g.countP selB) (hl : l' ≤ g.length) : n + selLeft g (m + 1) l' ≤ 200000 ∧ selLeft g (m + 1) l' < selLeft g m (l + 1) := by
  unfold selLeft at *
  have e : (g.countP selB - m) * (g.length + 1) = (g.countP selB - (m + 1)) * (g.length + 1) + (g.length + 1) := by
    rw [show g.countP selB - m = (g.countP selB - (m + 1)) + 1 by omega, Nat.succ_mul]
  omega
theorem SpR.fin {A M lo m n : Nat} {g : List Ce} {w wr : World} {wt : Nat → List Nat} {G : List Ce} {S : Nat → Prop} {gv wv : Value} (hg : graphB g 6 = true) (h : SpR A M lo g w m n [] wt G S gv wv wr) : SelDone A lo (selRes g) w (.returned (.int .i64 (m : Int))) wr := by
  have e := selRes_eq hg h.rel h.wl.fin
  rw [e]
  obtain ⟨ad, cap, rfl⟩ := h.mem.own.form
  exact ⟨rfl, ad, cap, h.mem.box, h.mem.own.next (fun k hk _ => (h.mem.sl k hk).1) (fun _ _ _ => rfl) (fun _ _ _ => rfl), h.bel⟩
/-- a cell is dropped -/
theorem SpR.dead {A M lo m n i : Nat} {g : List Ce} {w wr wr' : World} {rest : List Nat} {wt : Nat → List Nat} {G : List Ce} {S : Nat → Prop} {gv wv wv' : Value} (h : SpR A M lo g w m n (rest ++ [i]) wt G S gv wv wr) (hm : SpM A M lo n rest wt G S gv wv' wr') (hb : Below wr.heap.size wr wr')
    (hl : lo ≤ wr.heap.size) (hd : followN G G.length (kidAt G i 0) = none ∨ ∃ k, followN G G.length (kidAt G i 0) = some k ∧ opAt G k ≠ 5 ∧ ¬ isSel G k) : SpR A M lo g w m n rest wt G S gv wv' wr' :=
  ⟨h.rel, h.wl.dead hd, hm, h.bel.trans (hb.mono hl), by have := h.num; rw [List.length_append] at this; exact (left_drop this).2⟩
/-- a cell waits -/
theorem SpR.wait {A M lo m n i k : Nat} {g : List Ce} {w wr wr' : World} {rest : List Nat} {wt : Nat → List Nat} {G : List Ce} {S : Nat → Prop} {gv wv wv' : Value} (h : SpR A M lo g w m n (rest ++ [i]) wt G S gv wv wr) (hm : SpM A M lo (n + 1) rest (fun y => if y = k then wt k ++ [i] else wt y) G S gv wv' wr') (hb : Below lo wr wr')
    (hf : followN G G.length (kidAt G i 0) = some k) (hk : isSel G k) : SpR A M lo g w m (n + 1) rest (fun y => if y = k then wt k ++ [i] else wt y) G S gv wv' wr' :=
  ⟨h.rel, h.wl.wait hf hk, hm, h.bel.trans hb, by have := h.num; rw [List.length_append] at this; exact (left_drop this).1⟩
/-- a selection is made -/
theorem SpR.make {A M lo m n i k : Nat} {g : List Ce} {w wr wr' : World} {rest : List Nat} {wt : Nat → List Nat} {G : List Ce} {S S' : Nat → Prop} {gv wv wv' : Value} (hg : graphB g 6 = true) (h : SpR A M lo g w m n (rest ++ [i]) wt G S gv wv wr) (hm : SpM A M lo n (rest ++ wt i) wt (selAt G i k) S' gv wv' wr') (hb : Below lo wr wr') (he : Enabled G i k) :
    SpR A M lo g w (m + 1) n (rest ++ wt i) wt (selAt G i k) S' gv wv' wr' ∧ selLeft g (m + 1) (rest ++ wt i).length < selLeft g m (rest.length + 1) := by
  have h1 := h.wl.make he
  have h2 := (sel_le hg (h.rel.step he)).1
  have h3 := h1.len
  rw [selAt_len, (selR_inv hg h.rel).len] at h3
  have h4 := h.num
  rw [List.length_append] at h4
  obtain ⟨h5, h6⟩ := left_make h4 (by omega) h3
  exact ⟨⟨h.rel.step he, h1, hm, h.bel.trans hb, h5⟩, h6⟩
theorem grown_alloc {w w' : World} {o : Obj} {row : Option Nat} (h : (w.alloc o).grownBy w' row) : w.grownBy w' row :=
  ⟨h.os, h.tape, h.output, by have h1 := h.size; rw [Deep.nblk_alloc] at h1; omega, fun k hk hn => (h.block k (by rw [Deep.nblk_alloc]; omega) hn).trans (Deep.blk_alloc_lt _ _ _ hk)⟩
/-- a place is added to those that wait -/
theorem wpList_storeG {ops : Array Oper} {rest : List Oper} {o1 : Oper} {a : Act} {Q : Exit → Act → World → Prop} (w : World) (hg : o1.guard = none) (m x z : Operand) (hop : o1.op = Op.mapUpdate 179 m x z) {w0 : World} {M n q : Nat} {ws : List Nat} {wt : Nat → List Nat} {No : Nat → Prop} {D : DataW Unit} {v v' : Value}
    (hn : n ≤ 1048576) (hq : q ≤ 1048576) (hown : w0.ownsGroups Tryz.prog 3 (M + 1) 3 .i64 M n D) (hD : MapG D wt) (hst0 : Stk w0 (M + 1) (wt q) v) (hS : w0.Shuns M No) (hno : ∀ k, some k = v'.ownBlock → ¬ No k)
    (hback : w0.groupBack Tryz.prog 179 3 (M + 1) 3 .i64 M n D (.int .i64 (q : Int)) (.int .i64 (q : Int)) v) (hm : a.eval m = .map (some M)) (hx : a.eval x = .int .i64 (q : Int)) (hz : a.eval z = v')
    (hgr : w0.grownBy w v.ownBlock) (hst : Stk w (M + 1) ws v') (hne : ws ≠ []) (hw : ∀ y ∈ ws, y ≤ 1048576) (hw0 : ∀ y ∈ wt q, y ≤ 1048576) (hl : ws.length ≤ n + 1) (hloc : v'.ownBlock = v.ownBlock ∨ ∃ g, v'.ownBlock = some g ∧ w0.heap.size ≤ g)
    (hK : ∀ w2 (D' : DataW Unit), w2.ownsGroups Tryz.prog 3 (M + 1) 3 .i64 M (n + 1) D' → MapG D' (fun y => if y = q then ws else wt y) → w.grownBy w2 (some M) → w2.Shuns M No → wpList Tryz.prog ops Q rest (a.put o1.dst undef) w2) : wpList Tryz.prog ops Q (o1 :: rest) a w := by
  refine wpList_mapUpdate_back_shuns (No := No) (zs' := plI ws) w hg m x z 179 hop keyedI Tryz.underlying179 (keyOf_int_mk Tryz.underlying3 (litI_wf q hq)) hown (by unfold maxLen; omega) (ints_of hst0 hw0) hS (fun k e => hno k e.symm) hback hm hx hz hgr (ints_of hst hw) (by rw [plI_length]; exact hl) hloc ?_
  intro w2 h1 h2 h3
  exact hK w2 _ h1 (grp_put hD (grp_isMap hown) (ints_of hst hw) hne) h2 h3
/-- where selectParts begins -/
theorem sp_start {A lo : Nat} {g : List Ce} {gv wv : Value} {w w2 : World} (hA : w.heap[A]? = some (.cells #[gv] 142)) (hO : OwnC w lo (fun b => lo ≤ b) g gv) (hla : lo ≤ A) (hlo : lo ≤ w.heap.size) (hg : graphB g 6 = true)
    (hst : Stk w2 (w.alloc (.map #[] 0)).heap.size (selL g g.length) wv) (hb : Below (w.alloc (.map #[] 0)).heap.size (w.alloc (.map #[] 0)) w2) : ∃ S, SpR A w.heap.size lo g w 0 0 (selL g g.length) (fun _ => []) g S gv wv w2 := by
  have hAl := (Array.getElem?_eq_some_iff.1 hA).1
  have hz : (w.alloc (.map #[] 0)).heap.size = w.heap.size + 1 := Deep.nblk_alloc _ _
  have hs := hb.size
  have kp : ∀ k, k < w.heap.size → w2.heap[k]? = w.heap[k]? := fun k hk => (hb.block k (by omega)).trans (Deep.blk_alloc_lt _ _ _ hk)
  obtain ⟨m1, m2⟩ := (GrpW.made w).kept (No := NoG (fun k => lo ≤ k ∧ k < w.heap.size) A gv wv) (World.Shuns_made w _) (grown_ofBelow hb) (fun k e => by cases e)
  refine ⟨fun k => lo ≤ k ∧ k < w.heap.size, .zero, WL.start (selL_nodup _ _) fun i => selL_mem g i, ⟨(kp A hAl).trans hA, ?_, hst.lower (by omega), m1, fun k e hk => ?_, m2, fun k hk => ⟨hk.1, by omega⟩, hla, hlo⟩, (box_below w _).mono hlo |>.trans (hb.mono (by omega)), ?_⟩
  · exact hO.next (fun k hk hz => ⟨hk, hz⟩) (fun k _ hz => kp k hz) (fun k _ hz => kp k hz)
  · have := (own_some hst k e.symm).1
    omega
  · have h1 : g.countP selB ≤ g.length := List.countP_le_length
    have h2 := graphB_len hg
    have h3 := selL_len g g.length
    have h4 : (g.countP selB - 0) * (g.length + 1) ≤ 400 * 401 := Nat.mul_le_mul (by omega) (by omega)
    unfold selLeft
    omega
theorem SpM.noLt {A M lo n k : Nat} {work : List Nat} {wt : Nat → List Nat} {G : List Ce} {S : Nat → Prop} {gv wv : Value} {w : World} (h : SpM A M lo n work wt G S gv wv w) (hk : NoG S A gv wv k) : k < w.heap.size := by
  rcases hk with hk | rfl | hk | hk
  · exact (h.sl k hk).2
  · exact h.alt
  · exact (h.gb k hk).2.1
  · exact (h.wb k hk).2.1
/-- the row behind one place more for those that wait -/
theorem SpM.noNew {A M lo n : Nat} {work : List Nat} {wt : Nat → List Nat} {G : List Ce} {S : Nat → Prop} {gv wv v v' : Value} {w : World} {o : Obj} (h : SpM A M lo n work wt G S gv wv w) (hv : ∀ k, some k = v.ownBlock → ¬ NoG S A gv wv k) (hw : v'.ownBlock = v.ownBlock ∨ v'.ownBlock = some (w.alloc o).heap.size) :
    (∀ k, some k = v'.ownBlock → ¬ NoG S A gv wv k) ∧ (v'.ownBlock = v.ownBlock ∨ ∃ g, v'.ownBlock = some g ∧ w.heap.size ≤ g) := by
  rw [Deep.nblk_alloc] at hw
  refine ⟨fun k e => ?_, hw.imp id fun e => ⟨_, e, by omega⟩⟩
  rcases hw with hw | hw
  · exact hv k (e.trans hw)
  · rw [hw] at e
    simp only [Option.some.injEq] at e
    intro hn
    have := h.noLt hn
    omega
end Go.Proofs.YtiipcgnkfhjpeaaGreatDoor
