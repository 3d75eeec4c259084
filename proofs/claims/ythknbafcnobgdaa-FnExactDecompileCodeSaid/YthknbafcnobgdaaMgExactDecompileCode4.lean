/-
  THE PROGRAM's execute AT EXPRESSIONS: the stack of trees, in new memory, each tree with its own blocks; nothing that was there is changed.
-/
import Derived.Test.YthknbafcnobgdaaMgExactDecompileCode3
import Derived.Deep.DeepCutAuto
import Derived.Test.YthknbafcnobgdaaMgExactDecompileCode2
namespace Go.Proofs.Ythknbafcnobgdaa
set_option linter.unusedVariables false
set_option linter.unusedSimpArgs false
open Go.RowKit

/-- the node of an instruction and its operands -/
def PutRes (o n : Int) (kv : Value) (w : World) (e : Ending) (w' : World) : Prop := e = .returned (.agg #[.int .i64 o, .int .i64 n, kv]) ∧ Below w.heap.size w w'
set_option maxHeartbeats 400000 in
theorem put_calls (o n : Int) (ad : Option Addr) (nn cap : Nat) (w : World) : Calls Try.prog 79 #[.agg #[.int .i64 o, .int .i64 n], .slice ad nn cap] w (PutRes o n (.slice ad nn cap) w) := by
  go_enter Try.func79, Try.ntmps79
  go_wp2_with fail
  refine bodyPost_ret (v := .agg #[.int .i64 o, .int .i64 n, .slice ad nn cap]) (by simp [results, Try.results79, go_sem]) rfl ⟨rfl, ?_⟩
  repeat' (refine Below.setCell ?_ (by simp) _)
  exact ((Below.refl _ _).alloc (Nat.le_refl _) _).alloc (by simp) _
theorem own_lower {w : World} {lo lo' n size : Nat} {T : TypeId} {v : Value} {xs : List Value} (h : w.ownsRow lo' T size v n xs) (hl : lo ≤ lo') : w.ownsRow lo T size v n xs := by
  refine ⟨h.1, h.2.imp id ?_⟩
  rintro ⟨g, cap, cur, e, hg, r⟩
  exact ⟨g, cap, cur, e, Nat.le_trans hl hg, r⟩
theorem set3_other {w4 : World} {b k i : Nat} (h : k ≠ b) (x y z : Value) (_ : True) : (((w4.setCell ⟨b, 0, none⟩ x).setCell ⟨b, 1, none⟩ y).setCell ⟨b, 2, none⟩ z).cell? ⟨k, i, none⟩ = w4.cell? ⟨k, i, none⟩ := by
  refine World.cell?_of_block ?_
  show (((w4.setCell ⟨b, 0, none⟩ x).setCell ⟨b, 1, none⟩ y).setCell ⟨b, 2, none⟩ z).heap[k]? = w4.heap[k]?
  rw [Below.heap_setCell _ _ _ _ h, Below.heap_setCell _ _ _ _ h, Below.heap_setCell _ _ _ _ h]
theorem own_nob {w W : World} {n size : Nat} {T : TypeId} {v : Value} {xs : List Value} {o : Obj} (h : w.ownsRow (W.alloc o).heap.size T size v n xs) : some W.heap.size ≠ v.ownBlock := fun e => by
  have := own_block h e
  rw [Deep.nblk_alloc] at this
  omega
theorem own_new {w : World} {lo n size : Nat} {T : TypeId} {v : Value} {xs : List Value} (h : w.ownsRow lo T size v n xs) : some w.heap.size ≠ v.ownBlock := fun e => by
  rcases h.2 with ⟨rfl, -⟩ | ⟨g, cap, cur, rfl, -, hh, -⟩
  · simp [Value.ownBlock] at e
  · simp only [Value.ownBlock, Option.some.injEq] at e
    have := (Array.getElem?_eq_some_iff.1 hh).1
    omega
/-- what holds behind the call that makes a node: it stands in a box, its operands in a new row -/
def ERel (wr : World) (n : Nat) (news : List Value) (o nn : Int) (kv : Value) (b : Nat) (wz : World) : Prop :=
  wz.heap[b]? = some (.cells #[.int .i64 o, .int .i64 nn, kv] 37) ∧ wz.ownsRow wr.heap.size 37 3 kv n news ∧ Below wr.heap.size wr wz ∧ wr.heap.size ≤ b
theorem erel_alloc {wr w4 : World} {n : Nat} {news : List Value} {o nn : Int} {kv : Value} (hk : w4.ownsRow wr.heap.size 37 3 kv n news) (hb : Below wr.heap.size wr w4) : ERel wr n news o nn kv w4.heap.size (w4.alloc (.cells #[.int .i64 o, .int .i64 nn, kv] 37)) :=
  ⟨Deep.blk_alloc_new _ _, own_keep hk (fun j _ hj => Deep.blk_alloc_lt _ _ _ hj), hb.alloc hb.size _, hb.size⟩
theorem rowE_cells {w : World} {g : Nat} {T : TypeId} {f : Nat → Value} (h : w.rowIs g T 3 f) : w.heap[g]? = some (.cells #[f 0, f 1, f 2] T) := by
  obtain ⟨cur, hc, hs, hv⟩ := h
  rw [hc]
  have hx : cur = #[f 0, f 1, f 2] := by
    apply Array.ext_getElem?
    intro i
    by_cases hi : i < 3
    · rw [hv i (by omega)]
      rcases (by omega : i = 0 ∨ i = 1 ∨ i = 2) with rfl | rfl | rfl <;> rfl
    · rw [Array.getElem?_eq_none (by omega), Array.getElem?_eq_none (by simp; omega)]
  rw [hx]
theorem own_grown {lo n size : Nat} {T : TypeId} {w0 W w6 : World} {v : Value} {xs : List Value} (hx : W.ownsRow lo T size v n xs) (hl : lo = w0.heap.size) (hb : Below w0.heap.size w0 W) (hg : W.grownBy w6 v.ownBlock) : Below w0.heap.size w0 w6 :=
  ⟨by rw [hg.os]; exact hb.os, by rw [hg.tape]; exact hb.tape, by rw [hg.output]; exact hb.output, Nat.le_trans hb.size hg.size, fun k hk => (hg.block k (Nat.lt_of_lt_of_le hk hb.size) (fun e => by have := own_block hx e; omega)).trans (hb.block k hk)⟩
theorem box_kept {wr wc w6 : World} {n b m cap : Nat} {news : List Value} {o nn : Int} {kv : Value} {ad : Option Addr} {obj : Obj} (h : ERel wr n news o nn kv b wc) (ho : ∀ j, (Value.slice ad m cap).ownBlock = some j → j < wr.heap.size)
    (hg : (wc.alloc obj).drew.grownBy w6 (Value.slice ad m cap).ownBlock) : w6.heap[b]? = some (.cells #[.int .i64 o, .int .i64 nn, kv] 37) := by
  have hbl := (Array.getElem?_eq_some_iff.1 h.1).1
  refine (hg.block b (by show b < (wc.alloc obj).heap.size; rw [Deep.nblk_alloc]; omega) (fun e => ?_)).trans ((Deep.blk_alloc_lt wc _ _ hbl).trans h.1)
  have := ho b e.symm
  have := h.2.2.2
  omega
theorem erel_set {wr w4 : World} {n b : Nat} {news : List Value} {o nn : Int} {kv : Value} (hk : w4.ownsRow wr.heap.size 37 3 kv n news) (hb : Below wr.heap.size wr w4) (hz : w4.heap[b]? = some (.cells #[.int .i64 0, .int .i64 0, .slice none 0 0] 37)) (hlo : wr.heap.size ≤ b) (hne : some b ≠ kv.ownBlock) :
    ERel wr n news o nn kv b (((w4.setCell ⟨b, 0, none⟩ (.int .i64 o)).setCell ⟨b, 1, none⟩ (.int .i64 nn)).setCell ⟨b, 2, none⟩ kv) := by
  refine ⟨?_, ?_, ((hb.setCell hlo _).setCell hlo _).setCell hlo _, hlo⟩
  · have hr : w4.rowIs b 37 3 (boxF 0 0 (.slice none 0 0)) := ⟨_, hz, rfl, box3 _ _ _⟩
    have h3 := rowE_cells (((hr.set 0 (.int .i64 o)).set 1 (.int .i64 nn)).set 2 kv)
    rw [h3]
    simp
  · refine ⟨hk.1, hk.2.imp id ?_⟩
    rintro ⟨g, cap, cur, rfl, hg, hh, r⟩
    have hgb : g ≠ b := fun e => hne (by rw [e]; rfl)
    refine ⟨g, cap, cur, rfl, hg, ?_, r⟩
    rw [Below.heap_setCell _ _ _ _ hgb, Below.heap_setCell _ _ _ _ hgb, Below.heap_setCell _ _ _ _ hgb]
    exact hh
theorem own_slice {w : World} {lo n size : Nat} {T : TypeId} {v : Value} {xs : List Value} (h : w.ownsRow lo T size v n xs) : ∃ ad n cap, v = .slice ad n cap := by
  rcases h.2 with ⟨rfl, -⟩ | ⟨g, cap, cur, rfl, -⟩
  · exact ⟨_, _, _, rfl⟩
  · exact ⟨_, _, _, rfl⟩

theorem runC_len {cs : List Ins} {s : List Tr} {k : Nat} (h : runC [] (cs.take k) = some s) (hk : k ≤ cs.length) : s.length ≤ k := by
  have e := runC_ds [] [] (cs.take k) rfl
  rw [h, Option.map_some] at e
  cases e2 : dsC [] (cs.take k) with
  | none => rw [e2] at e; cases e
  | some ds =>
    rw [e2] at e
    simp only [Option.map_some, Option.some.injEq] at e
    rw [e]
    exact (dsC_take e2 hk).1
theorem runC_some {cs : List Ins} {s : List Tr} {k : Nat} (h : runC [] (cs.take k) = some s) (hk : k < cs.length) (h1 : 0 ≤ arity cs[k].op) (h2 : arN cs[k].op ≤ s.length) :
    runC [] (cs.take (k + 1)) = some (s.take (s.length - arN cs[k].op) ++ [.node cs[k].op cs[k].num (s.drop (s.length - arN cs[k].op))]) := by
  rw [runC_succ _ _ _ hk, h]
  simp [stp, h1, h2]
theorem runC_no {cs : List Ins} {s : List Tr} {k : Nat} (h : runC [] (cs.take k) = some s) (hk : k < cs.length) (h1 : ¬ (0 ≤ arity cs[k].op ∧ arN cs[k].op ≤ s.length)) : runC [] cs = none := by
  refine runC_stop (k := k + 1) ?_
  rw [runC_succ _ _ _ hk, h]
  simp [stp, h1]

/-- the stack in the end -/
def ExecRes (cs : List Ins) (w : World) (e : Ending) (w' : World) : Prop :=
  Below w.heap.size w w' ∧ match runC [] cs with
    | some s => ∃ v, e = .returned (.tuple #[v, .bool true]) ∧ OwnF w' w.heap.size w'.heap.size s v
    | none => e = .returned (.tuple #[.slice none 0 0, .bool false])
theorem OwnF.form {w : World} {lo hi : Nat} {ts : List Tr} {v : Value} (h : OwnF w lo hi ts v) : (v = .slice none 0 0 ∧ ts.length = 0) ∨ ∃ g cap, v = .slice (some ⟨g, 0, none⟩) ts.length cap ∧ lo ≤ g ∧ g < w.heap.size ∧ ts.length ≤ cap ∧ cap ≤ maxLen := by
  obtain ⟨xs, h1⟩ := h.row
  rcases h1.2 with h | ⟨g, cap, cur, rfl, hg, hh, hn, hc, -⟩
  · exact Or.inl h
  · exact Or.inr ⟨g, cap, rfl, hg, (Array.getElem?_eq_some_iff.1 hh).1, hn, hc⟩


set_option maxRecDepth 100000 in
set_option maxHeartbeats 1600000 in
theorem exec_calls (cs : List Ins) (c : Value) (w : World) (hk : InsIn w cs c) (hl : cs.length ≤ 1048576) (hw : ∀ c ∈ cs, I64 c.op ∧ I64 c.num) : Calls Try.prog 78 #[c, .func (.func 79) #[] #[]] w (ExecRes cs w) := by
  have HK : Hid (InsIn w cs c) := hk
  have HW := mkHid hw
  obtain ⟨ad, cap, rfl, -, -, -⟩ := hk
  obtain ⟨iE, zE, hII⟩ := infoE3
  have HE := mkHid hII
  clear hw hII
  go_enter Try.func78, Try.ntmps78
  go_wp2_with fail
  go_loopw [6, 15] (fun v i wr => ∃ (k : Nat) (s : List Tr), k ≤ cs.length ∧ i = .int .i64 k ∧ Hid (runC [] (cs.take k) = some s) ∧ OwnF wr w.heap.size wr.heap.size s v ∧ Below w.heap.size w wr) (fun _ i _ => cs.length - (intOf i).toNat)
  case atStart => exact ⟨0, [], Nat.zero_le _, rfl, rfl, OwnF.nil _ _ _, Below.refl _ _⟩
  case round =>
    obtain ⟨k, s, hk, rfl, HR, hown, hb⟩ := hrel
    have HO := mkHid hown
    have HB := mkHid hb
    have hsl := runC_len HR.out hk
    clear hown
    by_cases hlt : k < cs.length
    · obtain ⟨bl, off, rfl, -, c0, c1⟩ := (HK.out.next hb).at k hlt
      have HIW := mkHid (HW.out _ (List.getElem_mem hlt))
      have hq' : ∀ W : World, 0 ≤ arity cs[k].op ∧ arN cs[k].op ≤ s.length → Calls Try.prog 71 #[.agg #[.int .i64 cs[k].op, .int .i64 cs[k].num], .int .i64 (s.length : Int)] W fun e w' => e = .returned (.tuple #[.int .i64 ((s.length - arN cs[k].op : Nat) + 1 : Int), .bool true]) ∧ Below W.heap.size W w' := fun W h => (height_ok cs[k].op cs[k].num s.length W h.1 h.2 (by omega)).mono fun e w' h => ⟨by rw [h.1]; rfl, h.2⟩
      have hq2' : ∀ W : World, ¬ (0 ≤ arity cs[k].op ∧ arN cs[k].op ≤ s.length) → Calls Try.prog 71 #[.agg #[.int .i64 cs[k].op, .int .i64 cs[k].num], .int .i64 (s.length : Int)] W fun e w' => (∃ z : Int, e = .returned (.tuple #[.int .i64 z, .bool false])) ∧ Below W.heap.size W w' := fun W h => height_no cs[k].op cs[k].num s.length W h (by omega)
      have HQ := mkHid hq'
      have HQ2 := mkHid hq2'
      clear hb hq' hq2'
      by_cases hok : 0 ≤ arity cs[k].op ∧ arN cs[k].op ≤ s.length
      · have HN := mkHid (runC_some HR.out hlt hok.1 hok.2)
        have hq := HQ.out (wr.alloc (.cells #[.int .i64 cs[k].op, .int .i64 cs[k].num] 66)) hok
        have hm : s.length - arN cs[k].op ≤ s.length := by omega
        obtain ⟨m, hmm⟩ : ∃ m, m = s.length - arN cs[k].op := ⟨_, rfl⟩
        rw [← hmm] at hq HN hm
        clear hmm hok
        rcases HO.out.form with ⟨rfl, hs0⟩ | ⟨g, capg, rfl, hg1, hg2, hg3, hg4⟩
        · have hm0 : m = 0 := by omega
          subst hm0
          rw [hs0] at hq hm
          obtain ⟨xs, hx, hx1⟩ := HO.out.one
          have HX : Hid (wr.ownsRow w.heap.size 37 3 (.slice none 0 0) 0 xs) := by have h := hx; rw [hs0] at h; exact h
          have HM : Hid (0 ≤ 0) := hm
          have HTL : Hid (ECells wr (0 - 0) (xs.drop (0 * 3)) (.slice none 0 0)) := own_tail HX.out hx1 HM.out _ (Or.inl ⟨rfl, rfl⟩)
          have HWR : Hid (w.heap.size ≤ wr.heap.size) := HB.out.size
          clear hx hx1
          go_wp2_with fail
          refine hq.mono ?_
          rintro e w1 ⟨rfl, hb1⟩
          have HB1 : Hid (Below (wr.heap.size + 1) (wr.alloc (.cells #[.int .i64 cs[k].op, .int .i64 cs[k].num] 66)) w1) := by have h := hb1; rw [Deep.nblk_alloc] at h; exact h
          have HBX : Hid (w1.heap[wr.heap.size]? = some (.cells #[.int .i64 cs[k].op, .int .i64 cs[k].num] 66)) := (HB1.out.block _ (by omega)).trans (Deep.blk_alloc_new _ _)
          have HBR : Hid (Below wr.heap.size wr w1) := (box_below _ _).trans (HB1.out.mono (by omega))
          have x0 := cell_of_blk HBX.out 0 _ rfl
          have x1 := cell_of_blk HBX.out 1 _ rfl
          clear hb1
          go_upto_region 9 with fail
          go_cut [12, 15] from 15 to 43 (fun s12 s15 wx => s15 = .int .i64 (k : Int) ∧ ∃ b ad3 n3 cap3, s12 = .pointer (some ⟨b, 0, none⟩) ∧ ERel wr (0 - 0) (xs.drop (0 * 3)) cs[k].op cs[k].num (.slice ad3 n3 cap3) b wx)
          case first =>
            have HA1 : Hid (Below wr.heap.size wr (w1.drew.alloc (.cells #[.int .i64 0, .int .i64 0, .slice none 0 0] 37))) := HBR.out.drew.alloc HBR.out.drew.size _
            have g0 := old_cell (w := w1.drew) x0 (.cells #[.int .i64 0, .int .i64 0, .slice none 0 0] 37)
            have g1 := old_cell (w := w1.drew) x1 (.cells #[.int .i64 0, .int .i64 0, .slice none 0 0] 37)
            go_region_held3 (fun w' => w'.cell? ⟨wr.heap.size, 0, none⟩ = some (.int .i64 cs[k].op) ∧ w'.cell? ⟨wr.heap.size, 1, none⟩ = some (.int .i64 cs[k].num))
              (first
                | go_keep
                | exact ⟨e0, e1⟩
                | exact ⟨(set3_other HNB.out _ _ _ trivial).trans e0, (set3_other HNB.out _ _ _ trivial).trans e1⟩
                | exact ⟨h0, h1⟩
                | exact ⟨d0, d1⟩
                | exact ⟨g0, g1⟩
                | exact ⟨x0, x1⟩)
              (first
                | (go_at_call 90; refine (cloneE_calls (0 - 0) (xs.drop (0 * 3)) (.slice none 0 0) w1.drew (HTL.out.next HBR.out.drew) (by omega)).mono ?_; rintro e w3 ⟨kv, rfl, hk3, hb3⟩; have HK3 := mkHid (own_lower hk3 HBR.out.size); have HB3 := mkHid (HBR.out.drew.trans (hb3.mono HBR.out.drew.size)); have hbx3 := (hb3.block _ (Array.getElem?_eq_some_iff.1 HBX.out).1).trans HBX.out; have HL3 : Hid (wr.heap.size < w3.heap.size) := (Array.getElem?_eq_some_iff.1 hbx3).1; have d0 := cell_of_blk hbx3 0 _ rfl; have d1 := cell_of_blk hbx3 1 _ rfl; have h0 := old_cell d0 (.cells #[.int .i64 0, .int .i64 0, .slice none 0 0] 37); have h1 := old_cell d1 (.cells #[.int .i64 0, .int .i64 0, .slice none 0 0] 37); obtain ⟨ad3, n3, cap3, rfl⟩ := own_slice hk3; clear hk3 hb3 hbx3)
                | (go_at_call 90; refine (cloneE_calls (0 - 0) (xs.drop (0 * 3)) (.slice none 0 0) (w1.drew.alloc (.cells #[.int .i64 0, .int .i64 0, .slice none 0 0] 37)) (HTL.out.next HA1.out) (by omega)).mono ?_; rintro e w3 ⟨kv, rfl, hk3, hb3⟩; have HK3 := mkHid (own_lower hk3 HA1.out.size); have HB3 := mkHid (HA1.out.trans (hb3.mono HA1.out.size)); have hbx3 := (hb3.cell (p := ⟨wr.heap.size, 0, none⟩) (cell_lt g0)).trans g0; have hby3 := (hb3.cell (p := ⟨wr.heap.size, 1, none⟩) (cell_lt g1)).trans g1; have HZ3 : Hid (w3.heap[w1.heap.size]? = some (.cells #[.int .i64 0, .int .i64 0, .slice none 0 0] 37)) := (hb3.block _ (by rw [Deep.nblk_alloc]; exact Nat.lt_succ_self _)).trans (Deep.blk_alloc_new w1.drew _); have HNE3 := mkHid (own_nob hk3); have d0 := hbx3; have d1 := hby3; obtain ⟨ad3, n3, cap3, rfl⟩ := own_slice hk3; clear hk3 hb3 hbx3 hby3)
                | (have tk := HZ3; clear tk; go_at_call 79; refine (put_calls cs[k].op cs[k].num _ _ _ w3).mono ?_; rintro e w4 ⟨rfl, hb4⟩; have HB4 := mkHid (HB3.out.trans (hb4.mono HB3.out.size)); have HK4 := mkHid (own_keep HK3.out (fun j _ hj => hb4.block j hj)); have e0 := (hb4.cell (p := ⟨wr.heap.size, 0, none⟩) (cell_lt d0)).trans d0; have e1 := (hb4.cell (p := ⟨wr.heap.size, 1, none⟩) (cell_lt d1)).trans d1; have hz4 := (hb4.block _ (Array.getElem?_eq_some_iff.1 HZ3.out).1).trans HZ3.out; have HZ4 := mkHid hz4; have z0 := cell_of_blk hz4 0 _ rfl; have z1 := cell_of_blk hz4 1 _ rfl; have z2 := cell_of_blk hz4 2 _ rfl; have HNB : Hid (wr.heap.size ≠ w1.heap.size) := (by unfold Hid; have h1 := HBX.out; have h2 := (Array.getElem?_eq_some_iff.1 h1).1; have h3 := HB3.out.size; omega); have zf := fun i => frz_of_blk hz4 i; clear hb4 hz4)
                | (go_at_call 79; refine (put_calls cs[k].op cs[k].num _ _ _ w3).mono ?_; rintro e w4 ⟨rfl, hb4⟩; have HB4 := mkHid (HB3.out.trans (hb4.mono HB3.out.size)); have HK4 := mkHid (own_keep HK3.out (fun j _ hj => hb4.block j hj)); have e0 := (hb4.cell (p := ⟨wr.heap.size, 0, none⟩) (cell_lt d0)).trans d0; have e1 := (hb4.cell (p := ⟨wr.heap.size, 1, none⟩) (cell_lt d1)).trans d1; clear hb4)
                | (go_at_call 79; refine (put_calls cs[k].op cs[k].num _ _ _ (w3.alloc (.cells #[.int .i64 0, .int .i64 0, .slice none 0 0] 37))).mono ?_; rintro e w4 ⟨rfl, hb4⟩; have HA4 : Hid (Below wr.heap.size wr (w3.alloc (.cells #[.int .i64 0, .int .i64 0, .slice none 0 0] 37))) := HB3.out.alloc HB3.out.size _; have HB4 := mkHid (HA4.out.trans (hb4.mono HA4.out.size)); have HK4 := mkHid (own_keep (own_keep HK3.out (fun j _ hj => Deep.blk_alloc_lt _ (.cells #[.int .i64 0, .int .i64 0, .slice none 0 0] 37) _ hj)) (fun j _ hj => hb4.block j hj)); have e0 := (hb4.cell (p := ⟨wr.heap.size, 0, none⟩) (cell_lt h0)).trans h0; have e1 := (hb4.cell (p := ⟨wr.heap.size, 1, none⟩) (cell_lt h1)).trans h1; have hz4 := (hb4.block _ (by rw [Deep.nblk_alloc]; exact Nat.lt_succ_self _)).trans (Deep.blk_alloc_new w3 (.cells #[.int .i64 0, .int .i64 0, .slice none 0 0] 37)); have HZ4 := mkHid hz4; have HNE3 := mkHid (own_new HK3.out); have z0 := cell_of_blk hz4 0 _ rfl; have z1 := cell_of_blk hz4 1 _ rfl; have z2 := cell_of_blk hz4 2 _ rfl; have HNB : Hid (wr.heap.size ≠ w3.heap.size) := (by unfold Hid; have h1 := HL3.out; omega); have zf := fun i => frz_of_blk hz4 i; clear hb4 hz4))
            all_goals
              go_wp2_with fail
              go_meet
              first
                | exact ⟨rfl, _, _, _, _, rfl, erel_alloc HK4.out HB4.out⟩
                | exact ⟨rfl, _, _, _, _, rfl, erel_set HK4.out HB4.out HZ4.out HB3.out.size HNE3.out⟩
                | exact ⟨rfl, _, _, _, _, rfl, erel_set HK4.out HB4.out HZ4.out HBR.out.size HNE3.out⟩
          case rest =>
            obtain ⟨rfl, b, ad3, n3, cap3, rfl, her⟩ := hcut
            have HER := mkHid her
            have q0 := cell_of_blk her.1 0 _ rfl
            have q1 := cell_of_blk her.1 1 _ rfl
            have q2 := cell_of_blk her.1 2 _ rfl
            have HXM : Hid (wc.ownsRow w.heap.size 37 3 (.slice none 0 0) 0 (xs.take (0 * 3))) := own_keep (own_take HX.out hm) (fun j _ hj => HER.out.2.2.1.block j hj)
            clear her
            obtain ⟨adx, hadx⟩ : ∃ a : Option Addr, a = none := ⟨_, rfl⟩
            obtain ⟨cpx, hcpx⟩ : ∃ c : Nat, c = 0 := ⟨_, rfl⟩
            have HV0 : Hid (Value.slice none 0 0 = Value.slice adx 0 cpx) := by rw [hadx, hcpx]; rfl
            clear hadx hcpx
            have HOB : Hid (∀ j, (Value.slice adx 0 cpx).ownBlock = some j → j < wr.heap.size) := fun j hj => by rw [← HV0.out] at hj; simp [Value.ownBlock] at hj
            rw [HV0.out] at HXM ⊢
            go_wp2_with fail
            go_region_held3 (fun w' => w'.cell? ⟨b, 0, none⟩ = some (.int .i64 cs[k].op) ∧ w'.cell? ⟨b, 1, none⟩ = some (.int .i64 cs[k].num) ∧ w'.cell? ⟨b, 2, none⟩ = some (.slice ad3 n3 cap3))
              (first
                | go_keep
                | exact ⟨r0, r1, r2⟩
                | exact ⟨old_cell q0 _, old_cell q1 _, old_cell q2 _⟩
                | exact ⟨q0, q1, q2⟩)
              ((refine step_append_where (by rfl) (.tmp 39) (.tmp 41) 35 (by rfl) w.heap.size 37 iE zE 3 40 Try.underlying35 HE.out.1 HE.out.2.1 HE.out.2.2.1 HE.out.2.2.2.1 HE.out.2.2.2.2 (by decide) (.slice adx 0 cpx) 0 (xs.take (0 * 3)) (by rfl) (own_keep HXM.out (fun j _ hj => Deep.blk_alloc_lt wc _ _ hj)) ⟨wc.heap.size, 0, none⟩ 1 1 [.int .i64 cs[k].op, .int .i64 cs[k].num, .slice ad3 n3 cap3] (by rfl) (by rfl) (news3 wc _ _ _) (by simp [Value.oneCell']) (by unfold maxLen; omega) (by omega) (by show w.heap.size ≤ (wc.alloc _).heap.size; rw [Deep.nblk_alloc]; have h1 := HER.out.2.2.1.size; have h2 := HWR.out; omega) (by omega) ?_; intro v6 w6 hown6 hg6 hw6; have HOWN6 := mkHid hown6; have HG6 := mkHid hg6; have HW6 := mkHid hw6; have hb6 := box_kept HER.out HOB.out hg6; have r0 := cell_of_blk hb6 0 _ rfl; have r1 := cell_of_blk hb6 1 _ rfl; have r2 := cell_of_blk hb6 2 _ rfl; clear hown6 hg6 hw6))
            have HG7 : Hid ((wc.alloc (.cells #[.int .i64 cs[k].op, .int .i64 cs[k].num, .slice ad3 n3 cap3] 37)).grownBy w6 (Value.slice none 0 0).ownBlock) := by
              have h := HG6.out
              rw [← HV0.out] at h; exact ⟨h.os, h.tape, h.output, h.size, h.block⟩
            have HW7 : Hid (v6.ownBlock = (Value.slice none 0 0).ownBlock ∨ ∃ g, v6.ownBlock = some g ∧ (wc.alloc (.cells #[.int .i64 cs[k].op, .int .i64 cs[k].num, .slice ad3 n3 cap3] 37)).heap.size ≤ g) := by
              have h := HW6.out
              rw [← HV0.out] at h; exact h
            have HP : Hid (OwnF w6 w.heap.size w6.heap.size (s.take 0 ++ [.node cs[k].op cs[k].num (s.drop 0)]) v6) := OwnF.pop HO.out hs0.symm HM.out HWR.out HX.out HER.out.2.2.1 HER.out.2.1 HIW.out.1 HIW.out.2 HOWN6.out HG7.out HW7.out
            have HB6 : Hid (Below w.heap.size w w6) := own_grown (own_keep HXM.out (fun j _ hj => Deep.blk_alloc_lt wc (.cells #[.int .i64 cs[k].op, .int .i64 cs[k].num, .slice ad3 n3 cap3] 37) j hj)) rfl ((HB.out.trans (HER.out.2.2.1.mono HWR.out)).alloc (Nat.le_trans HWR.out HER.out.2.2.1.size) _) (by have h := HG6.out; exact (⟨h.os, h.tape, h.output, h.size, h.block⟩ : World.grownBy (wc.alloc _) w6 _))
            go_wp2_with fail
            go_roundw
            case rel => exact ⟨k + 1, _, by omega, by go_num, HN, HP.out, HB6.out⟩
            case measure => simp [intOf]; omega
        · unfold maxLen at hg4
          have hmle : m ≤ capg := by omega
          obtain ⟨xs, hx, hx1⟩ := HO.out.one
          have HX : Hid (wr.ownsRow w.heap.size 37 3 (.slice (some ⟨g, 0, none⟩) s.length capg) s.length xs) := by have h := hx;  exact h
          have HM : Hid (m ≤ s.length) := hm
          have HTL : Hid (ECells wr (s.length - m) (xs.drop (m * 3)) (.slice (if capg = m then some ⟨g, 0, none⟩ else some ⟨g, m * 3, none⟩) (s.length - m) (capg - m))) := own_tail HX.out hx1 HM.out _ (Or.inr ⟨g, rfl, rfl⟩)
          have HWR : Hid (w.heap.size ≤ wr.heap.size) := HB.out.size
          clear hx hx1
          go_wp2_with fail
          refine hq.mono ?_
          rintro e w1 ⟨rfl, hb1⟩
          have HB1 : Hid (Below (wr.heap.size + 1) (wr.alloc (.cells #[.int .i64 cs[k].op, .int .i64 cs[k].num] 66)) w1) := by have h := hb1; rw [Deep.nblk_alloc] at h; exact h
          have HBX : Hid (w1.heap[wr.heap.size]? = some (.cells #[.int .i64 cs[k].op, .int .i64 cs[k].num] 66)) := (HB1.out.block _ (by omega)).trans (Deep.blk_alloc_new _ _)
          have HBR : Hid (Below wr.heap.size wr w1) := (box_below _ _).trans (HB1.out.mono (by omega))
          have x0 := cell_of_blk HBX.out 0 _ rfl
          have x1 := cell_of_blk HBX.out 1 _ rfl
          clear hb1
          go_upto_region 9 with fail
          go_cut [12, 15] from 15 to 43 (fun s12 s15 wx => s15 = .int .i64 (k : Int) ∧ ∃ b ad3 n3 cap3, s12 = .pointer (some ⟨b, 0, none⟩) ∧ ERel wr (s.length - m) (xs.drop (m * 3)) cs[k].op cs[k].num (.slice ad3 n3 cap3) b wx)
          case first =>
            have HA1 : Hid (Below wr.heap.size wr (w1.drew.alloc (.cells #[.int .i64 0, .int .i64 0, .slice none 0 0] 37))) := HBR.out.drew.alloc HBR.out.drew.size _
            have g0 := old_cell (w := w1.drew) x0 (.cells #[.int .i64 0, .int .i64 0, .slice none 0 0] 37)
            have g1 := old_cell (w := w1.drew) x1 (.cells #[.int .i64 0, .int .i64 0, .slice none 0 0] 37)
            go_region_held3 (fun w' => w'.cell? ⟨wr.heap.size, 0, none⟩ = some (.int .i64 cs[k].op) ∧ w'.cell? ⟨wr.heap.size, 1, none⟩ = some (.int .i64 cs[k].num))
              (first
                | go_keep
                | exact ⟨e0, e1⟩
                | exact ⟨(set3_other HNB.out _ _ _ trivial).trans e0, (set3_other HNB.out _ _ _ trivial).trans e1⟩
                | exact ⟨h0, h1⟩
                | exact ⟨d0, d1⟩
                | exact ⟨g0, g1⟩
                | exact ⟨x0, x1⟩)
              (first
                | (go_at_call 90; generalize (if capg = m then (some ⟨g, 0, none⟩ : Option Addr) else some ⟨g, m * 3, none⟩) = tad at HTL ⊢; refine (cloneE_calls (s.length - m) (xs.drop (m * 3)) (.slice tad (s.length - m) (capg - m)) w1.drew (HTL.out.next HBR.out.drew) (by omega)).mono ?_; rintro e w3 ⟨kv, rfl, hk3, hb3⟩; have HK3 := mkHid (own_lower hk3 HBR.out.size); have HB3 := mkHid (HBR.out.drew.trans (hb3.mono HBR.out.drew.size)); have hbx3 := (hb3.block _ (Array.getElem?_eq_some_iff.1 HBX.out).1).trans HBX.out; have HL3 : Hid (wr.heap.size < w3.heap.size) := (Array.getElem?_eq_some_iff.1 hbx3).1; have d0 := cell_of_blk hbx3 0 _ rfl; have d1 := cell_of_blk hbx3 1 _ rfl; have h0 := old_cell d0 (.cells #[.int .i64 0, .int .i64 0, .slice none 0 0] 37); have h1 := old_cell d1 (.cells #[.int .i64 0, .int .i64 0, .slice none 0 0] 37); obtain ⟨ad3, n3, cap3, rfl⟩ := own_slice hk3; clear hk3 hb3 hbx3)
                | (go_at_call 90; generalize (if capg = m then (some ⟨g, 0, none⟩ : Option Addr) else some ⟨g, m * 3, none⟩) = tad at HTL ⊢; refine (cloneE_calls (s.length - m) (xs.drop (m * 3)) (.slice tad (s.length - m) (capg - m)) (w1.drew.alloc (.cells #[.int .i64 0, .int .i64 0, .slice none 0 0] 37)) (HTL.out.next HA1.out) (by omega)).mono ?_; rintro e w3 ⟨kv, rfl, hk3, hb3⟩; have HK3 := mkHid (own_lower hk3 HA1.out.size); have HB3 := mkHid (HA1.out.trans (hb3.mono HA1.out.size)); have hbx3 := (hb3.cell (p := ⟨wr.heap.size, 0, none⟩) (cell_lt g0)).trans g0; have hby3 := (hb3.cell (p := ⟨wr.heap.size, 1, none⟩) (cell_lt g1)).trans g1; have HZ3 : Hid (w3.heap[w1.heap.size]? = some (.cells #[.int .i64 0, .int .i64 0, .slice none 0 0] 37)) := (hb3.block _ (by rw [Deep.nblk_alloc]; exact Nat.lt_succ_self _)).trans (Deep.blk_alloc_new w1.drew _); have HNE3 := mkHid (own_nob hk3); have d0 := hbx3; have d1 := hby3; obtain ⟨ad3, n3, cap3, rfl⟩ := own_slice hk3; clear hk3 hb3 hbx3 hby3)
                | (have tk := HZ3; clear tk; go_at_call 79; refine (put_calls cs[k].op cs[k].num _ _ _ w3).mono ?_; rintro e w4 ⟨rfl, hb4⟩; have HB4 := mkHid (HB3.out.trans (hb4.mono HB3.out.size)); have HK4 := mkHid (own_keep HK3.out (fun j _ hj => hb4.block j hj)); have e0 := (hb4.cell (p := ⟨wr.heap.size, 0, none⟩) (cell_lt d0)).trans d0; have e1 := (hb4.cell (p := ⟨wr.heap.size, 1, none⟩) (cell_lt d1)).trans d1; have hz4 := (hb4.block _ (Array.getElem?_eq_some_iff.1 HZ3.out).1).trans HZ3.out; have HZ4 := mkHid hz4; have z0 := cell_of_blk hz4 0 _ rfl; have z1 := cell_of_blk hz4 1 _ rfl; have z2 := cell_of_blk hz4 2 _ rfl; have HNB : Hid (wr.heap.size ≠ w1.heap.size) := (by unfold Hid; have h1 := HBX.out; have h2 := (Array.getElem?_eq_some_iff.1 h1).1; have h3 := HB3.out.size; omega); have zf := fun i => frz_of_blk hz4 i; clear hb4 hz4)
                | (go_at_call 79; refine (put_calls cs[k].op cs[k].num _ _ _ w3).mono ?_; rintro e w4 ⟨rfl, hb4⟩; have HB4 := mkHid (HB3.out.trans (hb4.mono HB3.out.size)); have HK4 := mkHid (own_keep HK3.out (fun j _ hj => hb4.block j hj)); have e0 := (hb4.cell (p := ⟨wr.heap.size, 0, none⟩) (cell_lt d0)).trans d0; have e1 := (hb4.cell (p := ⟨wr.heap.size, 1, none⟩) (cell_lt d1)).trans d1; clear hb4)
                | (go_at_call 79; refine (put_calls cs[k].op cs[k].num _ _ _ (w3.alloc (.cells #[.int .i64 0, .int .i64 0, .slice none 0 0] 37))).mono ?_; rintro e w4 ⟨rfl, hb4⟩; have HA4 : Hid (Below wr.heap.size wr (w3.alloc (.cells #[.int .i64 0, .int .i64 0, .slice none 0 0] 37))) := HB3.out.alloc HB3.out.size _; have HB4 := mkHid (HA4.out.trans (hb4.mono HA4.out.size)); have HK4 := mkHid (own_keep (own_keep HK3.out (fun j _ hj => Deep.blk_alloc_lt _ (.cells #[.int .i64 0, .int .i64 0, .slice none 0 0] 37) _ hj)) (fun j _ hj => hb4.block j hj)); have e0 := (hb4.cell (p := ⟨wr.heap.size, 0, none⟩) (cell_lt h0)).trans h0; have e1 := (hb4.cell (p := ⟨wr.heap.size, 1, none⟩) (cell_lt h1)).trans h1; have hz4 := (hb4.block _ (by rw [Deep.nblk_alloc]; exact Nat.lt_succ_self _)).trans (Deep.blk_alloc_new w3 (.cells #[.int .i64 0, .int .i64 0, .slice none 0 0] 37)); have HZ4 := mkHid hz4; have HNE3 := mkHid (own_new HK3.out); have z0 := cell_of_blk hz4 0 _ rfl; have z1 := cell_of_blk hz4 1 _ rfl; have z2 := cell_of_blk hz4 2 _ rfl; have HNB : Hid (wr.heap.size ≠ w3.heap.size) := (by unfold Hid; have h1 := HL3.out; omega); have zf := fun i => frz_of_blk hz4 i; clear hb4 hz4))
            all_goals
              go_wp2_with fail
              go_meet
              first
                | exact ⟨rfl, _, _, _, _, rfl, erel_alloc HK4.out HB4.out⟩
                | exact ⟨rfl, _, _, _, _, rfl, erel_set HK4.out HB4.out HZ4.out HB3.out.size HNE3.out⟩
                | exact ⟨rfl, _, _, _, _, rfl, erel_set HK4.out HB4.out HZ4.out HBR.out.size HNE3.out⟩
          case rest =>
            obtain ⟨rfl, b, ad3, n3, cap3, rfl, her⟩ := hcut
            have HER := mkHid her
            have q0 := cell_of_blk her.1 0 _ rfl
            have q1 := cell_of_blk her.1 1 _ rfl
            have q2 := cell_of_blk her.1 2 _ rfl
            have HXM : Hid (wc.ownsRow w.heap.size 37 3 (.slice (some ⟨g, 0, none⟩) m capg) m (xs.take (m * 3))) := own_keep (own_take HX.out hm) (fun j _ hj => HER.out.2.2.1.block j hj)
            clear her
            have HOB : Hid (∀ j, (Value.slice (some ⟨g, 0, none⟩) m capg).ownBlock = some j → j < wr.heap.size) := fun j hj => (HX.out.lt j hj).2
            go_wp2_with fail
            go_region_held3 (fun w' => w'.cell? ⟨b, 0, none⟩ = some (.int .i64 cs[k].op) ∧ w'.cell? ⟨b, 1, none⟩ = some (.int .i64 cs[k].num) ∧ w'.cell? ⟨b, 2, none⟩ = some (.slice ad3 n3 cap3))
              (first
                | go_keep
                | exact ⟨r0, r1, r2⟩
                | exact ⟨old_cell q0 _, old_cell q1 _, old_cell q2 _⟩
                | exact ⟨q0, q1, q2⟩)
              ((refine step_append_where (by rfl) (.tmp 39) (.tmp 41) 35 (by rfl) w.heap.size 37 iE zE 3 40 Try.underlying35 HE.out.1 HE.out.2.1 HE.out.2.2.1 HE.out.2.2.2.1 HE.out.2.2.2.2 (by decide) (.slice (some ⟨g, 0, none⟩) m capg) m (xs.take (m * 3)) (by rfl) (own_keep HXM.out (fun j _ hj => Deep.blk_alloc_lt wc _ _ hj)) ⟨wc.heap.size, 0, none⟩ 1 1 [.int .i64 cs[k].op, .int .i64 cs[k].num, .slice ad3 n3 cap3] (by rfl) (by rfl) (news3 wc _ _ _) (by simp [Value.oneCell']) (by unfold maxLen; omega) (by omega) (by show w.heap.size ≤ (wc.alloc _).heap.size; rw [Deep.nblk_alloc]; have h1 := HER.out.2.2.1.size; have h2 := HWR.out; omega) (by omega) ?_; intro v6 w6 hown6 hg6 hw6; have HOWN6 := mkHid hown6; have HG6 := mkHid hg6; have HW6 := mkHid hw6; have hb6 := box_kept HER.out HOB.out hg6; have r0 := cell_of_blk hb6 0 _ rfl; have r1 := cell_of_blk hb6 1 _ rfl; have r2 := cell_of_blk hb6 2 _ rfl; clear hown6 hg6 hw6))
            have HG7 : Hid ((wc.alloc (.cells #[.int .i64 cs[k].op, .int .i64 cs[k].num, .slice ad3 n3 cap3] 37)).grownBy w6 (Value.slice (some ⟨g, 0, none⟩) m capg).ownBlock) := by
              have h := HG6.out
              exact ⟨h.os, h.tape, h.output, h.size, h.block⟩
            have HW7 : Hid (v6.ownBlock = (Value.slice (some ⟨g, 0, none⟩) m capg).ownBlock ∨ ∃ g, v6.ownBlock = some g ∧ (wc.alloc (.cells #[.int .i64 cs[k].op, .int .i64 cs[k].num, .slice ad3 n3 cap3] 37)).heap.size ≤ g) := by
              have h := HW6.out
              exact h
            have HP : Hid (OwnF w6 w.heap.size w6.heap.size (s.take m ++ [.node cs[k].op cs[k].num (s.drop m)]) v6) := OwnF.pop HO.out rfl HM.out HWR.out HX.out HER.out.2.2.1 HER.out.2.1 HIW.out.1 HIW.out.2 HOWN6.out HG7.out HW7.out
            have HB6 : Hid (Below w.heap.size w w6) := own_grown (own_keep HXM.out (fun j _ hj => Deep.blk_alloc_lt wc (.cells #[.int .i64 cs[k].op, .int .i64 cs[k].num, .slice ad3 n3 cap3] 37) j hj)) rfl ((HB.out.trans (HER.out.2.2.1.mono HWR.out)).alloc (Nat.le_trans HWR.out HER.out.2.2.1.size) _) (by have h := HG6.out; exact (⟨h.os, h.tape, h.output, h.size, h.block⟩ : World.grownBy (wc.alloc _) w6 _))
            go_wp2_with fail
            go_roundw
            case rel => exact ⟨k + 1, _, by omega, by go_num, HN, HP.out, HB6.out⟩
            case measure => simp [intOf]; omega
      · have HV := mkHid (runC_no HR.out hlt hok)
        have hq := HQ2.out (wr.alloc (.cells #[.int .i64 cs[k].op, .int .i64 cs[k].num] 66)) hok
        clear hok
        obtain ⟨ads, caps, rfl⟩ : ∃ ads caps, u6 = .slice ads s.length caps := by
          rcases HO.out.form with ⟨e, h⟩ | ⟨g, capg, e, -⟩
          · exact ⟨none, 0, by rw [e, h]⟩
          · exact ⟨_, _, e⟩
        go_wp2_with fail
        refine hq.mono ?_
        rintro e w1 ⟨⟨z, rfl⟩, hb1⟩
        have HB1 : Hid (Below w.heap.size w w1) := HB.out.trans (((box_below _ _).trans (hb1.mono (by rw [Deep.nblk_alloc]; omega))).mono HB.out.size)
        clear hb1
        go_wp2_with fail
        go_ret2
        refine ⟨HB1.out, ?_⟩
        rw [HV.out]
        rfl
    · have hke : k = cs.length := by omega
      have HV : Hid (runC [] cs = some s) := by
        have := HR.out
        rw [hke, List.take_length] at this
        exact this
      clear hke hb
      obtain ⟨ads, caps, rfl⟩ : ∃ ads caps, u6 = .slice ads s.length caps := by
        rcases HO.out.form with ⟨e, h⟩ | ⟨g, capg, e, -⟩
        · exact ⟨none, 0, by rw [e, h]⟩
        · exact ⟨_, _, e⟩
      go_wp2_with fail
      go_ret2
      refine ⟨HB.out, ?_⟩
      rw [HV.out]
      exact ⟨.slice ads s.length caps, rfl, HO.out⟩
end Go.Proofs.Ythknbafcnobgdaa
/-
  A NODE OF THE PROGRAM: nodeOf's answer, the method fits that it leads to, and that one's answer.
-/
namespace Go.Proofs.Ythknbafcnobgdaa
set_option linter.unusedVariables false
set_option linter.unusedSimpArgs false
open Go.RowKit

/-- is a node right at its top? -/
def topC (op num : Int) (n : Nat) (vars defs : Int) : Bool := decide ((n : Int) = arity op) && ownB op num vars defs
def topB (t : Tr) (vars defs : Int) : Bool := topC t.op t.num t.kids.length vars defs

/-- what is known of the node at a tree's top: nodeOf's answer, the method that it leads to, and that one's answer -/
structure NodeAt (vars defs op num : Int) (n : Nat) (T : TypeId) (x : Value) (K : FuncId) (ok fit : Bool) : Prop where
  node : ∀ (w : World), Calls Try.prog 92 #[.int .i64 op, .int .i64 num, .int .i64 (n : Int)] w fun e w' => e = .returned (.tuple #[.iface T x, .bool ok]) ∧ Below w.heap.size w w'
  meth : ∀ w : World, (method 261 T x "loop.example/graphreducer/impl.fits").run Try.prog w = .ok (K, x) w
  enters : ∀ (args : Array Value) (w : World), (callFunc K args).run Try.prog w = .ok (.enter K args) w
  fits : ok = true → ∀ w : World, Calls Try.prog K #[x, .int .i64 vars, .int .i64 defs] w fun e w' => e = .returned (.bool fit) ∧ Below w.heap.size w w'
  top : (ok && fit) = topC op num n vars defs

set_option maxHeartbeats 400000 in
theorem fits_1 (n vars defs : Int) (w : World) : Calls Try.prog 116 #[.int .i64 n, .int .i64 vars, .int .i64 defs] w fun e w' => e = .returned (.bool (ownB 1 n vars defs)) ∧ Below w.heap.size w w' := by
  by_cases h0 : 0 ≤ n
  · go_enter Try.func116, Try.ntmps116
    go_wp2_with fail
    go_ret
    exact ⟨ret_bool (by simp [ownB, h0]), Below.refl _ _⟩
  · have h1 : decide (0 ≤ n) = false := by simpa using h0
    go_enter Try.func116, Try.ntmps116
    go_wp2_with fail
    go_ret
    exact ⟨ret_bool (by simp [ownB]; omega), Below.refl _ _⟩
theorem meth_1 (n : Int) (w : World) : (method 261 133 (.int .i64 n) "loop.example/graphreducer/impl.fits").run Try.prog w = .ok (116, .int .i64 n) w := by kernel_rfl
theorem enters_1 (args : Array Value) (w : World) : (callFunc 116 args).run Try.prog w = .ok (.enter 116 args) w := by kernel_rfl
theorem nodeAt_1 (vars defs op num : Int) (n : Nat) (h : op = 1) : NodeAt vars defs op num n 133 (.int .i64 num) 116 ((n : Int) == 0) (ownB op num vars defs) where
  node w := by rw [h]; exact nodeOf_1 num n w
  meth w := meth_1 _ w
  enters := enters_1
  fits _ w := by rw [h]; exact fits_1 _ _ _ w
  top := by unfold topC; rw [h, show arity 1 = 0 from rfl]; rfl

set_option maxHeartbeats 400000 in
theorem fits_2 (n vars defs : Int) (w : World) : Calls Try.prog 118 #[.int .i64 n, .int .i64 vars, .int .i64 defs] w fun e w' => e = .returned (.bool (ownB 2 n vars defs)) ∧ Below w.heap.size w w' := by
  by_cases h0 : 0 ≤ n
  · go_enter Try.func118, Try.ntmps118
    go_wp2_with fail
    go_ret
    exact ⟨ret_bool (by simp [ownB, h0]), Below.refl _ _⟩
  · have h1 : decide (0 ≤ n) = false := by simpa using h0
    go_enter Try.func118, Try.ntmps118
    go_wp2_with fail
    go_ret
    exact ⟨ret_bool (by simp [ownB]; omega), Below.refl _ _⟩
theorem meth_2 (n : Int) (w : World) : (method 261 134 (.int .i64 n) "loop.example/graphreducer/impl.fits").run Try.prog w = .ok (118, .int .i64 n) w := by kernel_rfl
theorem enters_2 (args : Array Value) (w : World) : (callFunc 118 args).run Try.prog w = .ok (.enter 118 args) w := by kernel_rfl
theorem nodeAt_2 (vars defs op num : Int) (n : Nat) (h : op = 2) : NodeAt vars defs op num n 134 (.int .i64 num) 118 ((n : Int) == 0) (ownB op num vars defs) where
  node w := by rw [h]; exact nodeOf_2 num n w
  meth w := meth_2 _ w
  enters := enters_2
  fits _ w := by rw [h]; exact fits_2 _ _ _ w
  top := by unfold topC; rw [h, show arity 2 = 0 from rfl]; rfl

set_option maxHeartbeats 400000 in
theorem fits_3 (n vars defs : Int) (w : World) : Calls Try.prog 120 #[.int .i64 n, .int .i64 vars, .int .i64 defs] w fun e w' => e = .returned (.bool (ownB 3 n vars defs)) ∧ Below w.heap.size w w' := by
  by_cases h0 : 0 ≤ n
  · go_enter Try.func120, Try.ntmps120
    go_wp2_with fail
    go_ret
    exact ⟨ret_bool (by simp [ownB, h0]), Below.refl _ _⟩
  · have h1 : decide (0 ≤ n) = false := by simpa using h0
    go_enter Try.func120, Try.ntmps120
    go_wp2_with fail
    go_ret
    exact ⟨ret_bool (by simp [ownB]; omega), Below.refl _ _⟩
theorem meth_3 (n : Int) (w : World) : (method 261 135 (.int .i64 n) "loop.example/graphreducer/impl.fits").run Try.prog w = .ok (120, .int .i64 n) w := by kernel_rfl
theorem enters_3 (args : Array Value) (w : World) : (callFunc 120 args).run Try.prog w = .ok (.enter 120 args) w := by kernel_rfl
theorem nodeAt_3 (vars defs op num : Int) (n : Nat) (h : op = 3) : NodeAt vars defs op num n 135 (.int .i64 num) 120 ((n : Int) == 0) (ownB op num vars defs) where
  node w := by rw [h]; exact nodeOf_3 num n w
  meth w := meth_3 _ w
  enters := enters_3
  fits _ w := by rw [h]; exact fits_3 _ _ _ w
  top := by unfold topC; rw [h, show arity 3 = 0 from rfl]; rfl

set_option maxHeartbeats 400000 in
theorem fits_o (k : Int) (m : ByteArray) (vars defs : Int) (w : World) : Calls Try.prog 114 #[.agg #[.int .i64 k, .string m], .int .i64 vars, .int .i64 defs] w fun e w' => e = .returned (.bool true) ∧ Below w.heap.size w w' := by
  go_enter Try.func114, Try.ntmps114
  go_wp2_with fail
  go_ret
  exact ⟨rfl, box_below _ _⟩
theorem meth_o (k : Int) (m : ByteArray) (w : World) : (method 261 129 (.agg #[.int .i64 k, .string m]) "loop.example/graphreducer/impl.fits").run Try.prog w = .ok (114, .agg #[.int .i64 k, .string m]) w := by kernel_rfl
theorem enters_o (args : Array Value) (w : World) : (callFunc 114 args).run Try.prog w = .ok (.enter 114 args) w := by kernel_rfl
theorem nodeAt_o (vars defs op num : Int) (n : Nat) (h1 : op ≠ 1) (h2 : op ≠ 2) (h3 : op ≠ 3) : NodeAt vars defs op num n 129 (.agg #[.int .i64 (opKids op), .string (opMarks op)]) 114 (opOk op && ((num == 0) && ((n : Int) == opKids op))) true where
  node w := nodeOf_op op num n w (by simpa using h1) (by simpa using h2) (by simpa using h3)
  meth w := meth_o _ _ w
  enters := enters_o
  fits _ w := fits_o _ _ _ _ w
  top := by
    unfold topC ownB
    rw [if_neg h1, if_neg h2, if_neg h3, Bool.and_true]
    by_cases hr : 4 ≤ op ∧ op ≤ 10
    · have e : opKids op = arity op := by
        have : op = 4 ∨ op = 5 ∨ op = 6 ∨ op = 7 ∨ op = 8 ∨ op = 9 ∨ op = 10 := by omega
        rcases this with h | h | h | h | h | h | h <;> rw [h] <;> rfl
      have e2 : opOk op = true := by unfold opOk; rw [decide_eq_true hr]
      rw [e, e2, Bool.true_and, Bool.and_comm]
      rfl
    · have e2 : opOk op = false := by unfold opOk; rw [decide_eq_false hr]
      have e3 : arity op = -1 := by
        unfold arity
        rw [if_neg (by omega), if_neg (by omega), if_neg (by omega), if_neg (by omega)]
      rw [e2, e3, Bool.false_and, decide_eq_false (by omega), Bool.false_and]
end Go.Proofs.Ythknbafcnobgdaa
/-
  THE PROGRAM's nodesLeft AND ExprValid: which trees they take for valid; nothing that was there is changed.
-/
namespace Go.Proofs.Ythknbafcnobgdaa
set_option linter.unusedVariables false
set_option linter.unusedSimpArgs false
open Go.RowKit

def NlSaid (vars defs : Int) (d : Nat) (t : Tr) : Prop := ∀ (c : Value) (nodes : Int) (w : World), In w t.kids c → 0 ≤ nodes → nodes ≤ 1000 →
  Calls Try.prog 91 #[.agg #[.int .i64 t.op, .int .i64 t.num, c], .int .i64 vars, .int .i64 defs, .int .i64 (d : Int), .int .i64 nodes] w fun e w' => e = .returned (.int .i64 (nlOut vars defs d t nodes)) ∧ Below w.heap.size w w'

theorem nlOut_bad (vars defs : Int) (d : Nat) (t : Tr) (nodes : Int) (h : topB t vars defs = false) : nlOut vars defs d t nodes = -1 := by
  unfold nlOut
  rw [if_neg]
  rintro ⟨h1, _⟩
  cases d with
  | zero => simp [shB] at h1
  | succ d =>
    simp only [shB, Bool.and_eq_true] at h1
    simp only [topB, topC] at h
    rw [h1.1.1, h1.1.2] at h
    simp at h
theorem nlOut_zero (vars defs : Int) (t : Tr) (nodes : Int) : nlOut vars defs 0 t nodes = -1 := by
  unfold nlOut; rw [if_neg]; rintro ⟨h1, _⟩; simp [shB] at h1
theorem nlOut_none (vars defs : Int) (d : Nat) (t : Tr) : nlOut vars defs d t 0 = -1 := by
  unfold nlOut; rw [if_neg]; rintro ⟨_, h⟩; omega

/-- what is left behind the first k operands -/
def nlAt (t : Tr) (nodes : Int) (k : Nat) : Int := nodes - 1 - szL (t.kids.take k)
theorem nlOut_kid (vars defs : Int) (d : Nat) (t : Tr) (nodes : Int) (k : Nat) (hk : k < t.kids.length) (h : 0 ≤ nlOut vars defs d t.kids[k] (nlAt t nodes k)) :
    nlOut vars defs d t.kids[k] (nlAt t nodes k) = nlAt t nodes (k + 1) ∧ shB vars defs d t.kids[k] = true := by
  have e := szL_take_succ t.kids k hk
  unfold nlOut at h ⊢
  split at h
  · rename_i h1
    rw [if_pos h1]
    unfold nlAt
    rw [e]
    exact ⟨by omega, h1.1⟩
  · omega
theorem nlOut_kid_bad (vars defs : Int) (d : Nat) (t : Tr) (nodes : Int) (k : Nat) (hk : k < t.kids.length) (h : nlOut vars defs d t.kids[k] (nlAt t nodes k) < 0) (h0 : 0 ≤ nlAt t nodes k) : nlOut vars defs (d + 1) t nodes = -1 := by
  have e := szL_take_succ t.kids k hk
  have e2 := szL_take_le t.kids (k + 1)
  unfold nlOut
  rw [if_neg]
  rintro ⟨h1, h2⟩
  simp only [shB, Bool.and_eq_true, List.all_eq_true] at h1
  have h3 := h1.2 _ (List.getElem_mem hk)
  unfold nlOut at h
  rw [if_pos] at h
  · rw [szT_eq t] at h2; unfold nlAt at *; omega
  · refine ⟨h3, ?_⟩
    rw [szT_eq t] at h2; unfold nlAt; omega
theorem nlOut_end (vars defs : Int) (d : Nat) (t : Tr) (nodes : Int) (ht : topB t vars defs = true) (ha : (t.kids.take t.kids.length).all (shB vars defs d) = true) (h0 : 0 ≤ nlAt t nodes t.kids.length) : nlOut vars defs (d + 1) t nodes = nlAt t nodes t.kids.length := by
  rw [List.take_length] at ha
  unfold nlAt at *
  rw [List.take_length] at *
  unfold nlOut
  rw [if_pos, szT_eq]
  · omega
  · refine ⟨?_, by rw [szT_eq]; omega⟩
    simp only [topB, topC, Bool.and_eq_true] at ht
    simp only [shB, ha, ht.1, ht.2, Bool.and_true]
theorem nlOut_range (vars defs : Int) (d : Nat) (t : Tr) (nodes : Int) (h : 0 ≤ nodes) : -1 ≤ nlOut vars defs d t nodes ∧ nlOut vars defs d t nodes ≤ nodes := by
  unfold nlOut; split <;> omega

set_option maxRecDepth 100000 in
set_option maxHeartbeats 800000 in
/-- the node is not right at its top, or nothing is left -/
theorem nl_leave (vars defs : Int) (d : Nat) (t : Tr) (T : TypeId) (x : Value) (K : FuncId) (ok fit : Bool) (hn : NodeAt vars defs t.op t.num t.kids.length T x K ok fit) (ad : Option Addr) (cap : Nat) (nodes : Int) (w : World)
    (h : topB t vars defs = false ∨ d = 0 ∨ nodes = 0) :
    Calls Try.prog 91 #[.agg #[.int .i64 t.op, .int .i64 t.num, .slice ad t.kids.length cap], .int .i64 vars, .int .i64 defs, .int .i64 (d : Int), .int .i64 nodes] w fun e w' => e = .returned (.int .i64 (nlOut vars defs d t nodes)) ∧ Below w.heap.size w w' := by
  have HV : Hid (nlOut vars defs d t nodes = -1) := by
    rcases h with h | rfl | rfl
    · exact nlOut_bad _ _ _ _ _ h
    · exact nlOut_zero _ _ _ _
    · exact nlOut_none _ _ _ _
  have HN : Hid (NodeAt vars defs t.op t.num t.kids.length T x K ok fit) := hn
  have hme := hn.meth
  have hen := hn.enters
  have htop : (ok && fit) = topB t vars defs := hn.top
  clear hn
  cases hok : ok with
  | false =>
    clear htop h
    subst hok
    clear hme hen
    go_enter Try.func91, Try.ntmps91
    go_wp2_with fail
    refine (HN.out.node _).mono ?_
    rintro e w1 ⟨rfl, hb⟩
    have HB : Hid (Below w.heap.size w w1) := (box_below _ _).trans (hb.mono (by rw [Deep.nblk_alloc]; omega))
    clear hb
    go_wp2_with fail
    go_ret
    exact ⟨ret_int HV.out.symm, HB.out⟩
  | true =>
    subst hok
    rw [Bool.true_and] at htop
    rw [← htop] at h
    clear htop
    cases hfit : fit with
    | false =>
      subst hfit
      clear h
      go_enter Try.func91, Try.ntmps91
      go_wp2_with fail
      refine (HN.out.node _).mono ?_
      rintro e w1 ⟨rfl, hb⟩
      have HB : Hid (Below w.heap.size w w1) := (box_below _ _).trans (hb.mono (by rw [Deep.nblk_alloc]; omega))
      clear hb
      go_wp2_with fail
      refine (HN.out.fits rfl _).mono ?_
      rintro e w2 ⟨rfl, hb⟩
      have HB2 : Hid (Below w.heap.size w w2) := HB.out.trans (hb.mono HB.out.size)
      clear hb
      go_wp2_with fail
      go_ret
      exact ⟨ret_int HV.out.symm, HB2.out⟩
    | true =>
      subst hfit
      by_cases hd : d = 0
      · subst hd
        clear h
        have hd' : (((0 : Nat) : Int) == 0) = true := rfl
        go_enter Try.func91, Try.ntmps91
        go_wp2_with fail
        refine (HN.out.node _).mono ?_
        rintro e w1 ⟨rfl, hb⟩
        have HB : Hid (Below w.heap.size w w1) := (box_below _ _).trans (hb.mono (by rw [Deep.nblk_alloc]; omega))
        clear hb
        go_wp2_with fail
        refine (HN.out.fits rfl _).mono ?_
        rintro e w2 ⟨rfl, hb⟩
        have HB2 : Hid (Below w.heap.size w w2) := HB.out.trans (hb.mono HB.out.size)
        clear hb
        go_wp2_with fail
        go_ret
        exact ⟨ret_int HV.out.symm, HB2.out⟩
      · have hn0 : nodes = 0 := by
          rcases h with h | h | h
          · simp at h
          · exact absurd h hd
          · exact h
        subst hn0
        clear h
        have hd' : ((d : Int) == 0) = false := by simpa using hd
        go_enter Try.func91, Try.ntmps91
        go_wp2_with fail
        refine (HN.out.node _).mono ?_
        rintro e w1 ⟨rfl, hb⟩
        have HB : Hid (Below w.heap.size w w1) := (box_below _ _).trans (hb.mono (by rw [Deep.nblk_alloc]; omega))
        clear hb
        go_wp2_with fail
        refine (HN.out.fits rfl _).mono ?_
        rintro e w2 ⟨rfl, hb⟩
        have HB2 : Hid (Below w.heap.size w w2) := HB.out.trans (hb.mono HB.out.size)
        clear hb
        go_wp2_with fail
        go_ret
        exact ⟨ret_int HV.out.symm, HB2.out⟩

set_option maxRecDepth 100000 in
set_option maxHeartbeats 800000 in
/-- the node is right at its top, and something is left: its operands -/
theorem nl_go (vars defs : Int) (d : Nat) (t : Tr) (T : TypeId) (x : Value) (K : FuncId) (ok fit : Bool) (hn : NodeAt vars defs t.op t.num t.kids.length T x K ok fit) (c : Value) (nodes : Int) (w : World)
    (ih : ∀ i (hi : i < t.kids.length), NlSaid vars defs d (t.kids[i])) (hk : In w t.kids c) (ht : topB t vars defs = true) (h0 : 0 < nodes) (h1 : nodes ≤ 1000) (hd : d ≤ 100) :
    Calls Try.prog 91 #[.agg #[.int .i64 t.op, .int .i64 t.num, c], .int .i64 vars, .int .i64 defs, .int .i64 ((d + 1 : Nat) : Int), .int .i64 nodes] w fun e w' => e = .returned (.int .i64 (nlOut vars defs (d + 1) t nodes)) ∧ Below w.heap.size w w' := by
  have HI : Hid (∀ i (hi : i < t.kids.length), NlSaid vars defs d (t.kids[i])) := ih
  have HK : Hid (In w t.kids c) := hk
  have HT : Hid (topB t vars defs = true) := ht
  have HN : Hid (NodeAt vars defs t.op t.num t.kids.length T x K ok fit) := hn
  have hme := hn.meth
  have hen := hn.enters
  have htop : (ok && fit) = topB t vars defs := hn.top
  rw [ht, Bool.and_eq_true] at htop
  obtain ⟨rfl, rfl⟩ := htop
  clear hn ih ht
  obtain ⟨ad, cap, rfl, hl, hm, -⟩ := hk
  unfold maxLen at hm
  have d1 : ((d : Int) + 1 == 0) = false := by simp; omega
  have n1 : (nodes == 0) = false := by simp; omega
  go_enter Try.func91, Try.ntmps91
  go_wp2_with fail
  refine (HN.out.node _).mono ?_
  rintro e w1 ⟨rfl, hb⟩
  have HB : Hid (Below w.heap.size w w1) := (box_below _ _).trans (hb.mono (by rw [Deep.nblk_alloc]; omega))
  have hz : w.heap.size < w1.heap.size := by have := hb.size; rw [Deep.nblk_alloc] at this; omega
  have c2 := (hb.cell (p := ⟨w.heap.size, 2, none⟩) (by rw [Deep.nblk_alloc]; exact Nat.lt_succ_self _)).trans (box_cell w #[.int .i64 t.op, .int .i64 t.num, .slice ad t.kids.length cap] 37 2 _ rfl)
  have C2 : Hid (w1.cell? ⟨w.heap.size, 2, none⟩ = some (.slice ad t.kids.length cap)) := c2
  clear hb c2
  go_wp2_with fail
  refine (HN.out.fits rfl _).mono ?_
  rintro e w2 ⟨rfl, hb⟩
  have HB2 : Hid (Below w.heap.size w w2) := HB.out.trans (hb.mono HB.out.size)
  have c2 := (hb.cell (p := ⟨w.heap.size, 2, none⟩) hz).trans C2.out
  clear hb hme hen
  go_wp2_with fail
  clear c2
  go_loopw [4, 48] (fun n i wr => ∃ k : Nat, k ≤ t.kids.length ∧ i = .int .i64 k ∧ n = .int .i64 (nlAt t nodes k) ∧ 0 ≤ nlAt t nodes k ∧ (t.kids.take k).all (shB vars defs d) = true ∧ Below w.heap.size w wr) (fun _ i _ => t.kids.length - (intOf i).toNat)
  case atStart => exact ⟨0, Nat.zero_le _, rfl, by simp [nlAt, szL], by simp [nlAt, szL]; omega, by simp, HB2.out⟩
  case round =>
    obtain ⟨k, hk, rfl, rfl, hpos, hall, hb⟩ := hrel
    have HA : Hid ((t.kids.take k).all (shB vars defs d) = true) := hall
    have HBW : Hid (Below w.heap.size w wr) := hb
    have hle : nlAt t nodes k ≤ nodes := by unfold nlAt; omega
    clear hall
    by_cases hlt : k < t.kids.length
    · have hrow' := HK.out.next hb
      clear hb
      obtain ⟨ad', cap', he, -, -, hr⟩ := hrow'
      cases he
      rcases hr with hnil | ⟨bl, off, rfl, -, hr⟩
      · rw [hnil] at hlt; simp at hlt
      obtain ⟨p, q, r, e0, e1, e2, ht⟩ := RowOn.at t.kids off k hlt hr
      obtain ⟨rfl, rfl, -, -, hkk⟩ := trOn_iff.1 ht
      obtain ⟨ad2, cap2, rfl, -, -, -⟩ := id hkk
      have HKK : Hid (In wr t.kids[k].kids (.slice ad2 t.kids[k].kids.length cap2)) := hkk
      clear hkk ht hr
      go_wp2_with fail
      refine (HI.out k hlt (.slice ad2 t.kids[k].kids.length cap2) _ _ ?_ hpos (by omega)).mono ?_
      · exact HKK.out.next (box_below _ _)
      rintro e w3 ⟨rfl, hb3⟩
      have HB3 : Hid (Below w.heap.size w w3) := HBW.out.trans (((box_below _ _).trans (hb3.mono (by rw [Deep.nblk_alloc]; omega))).mono HBW.out.size)
      clear hb3
      have hrg := nlOut_range vars defs d t.kids[k] (nlAt t nodes k) hpos
      by_cases hneg : nlOut vars defs d t.kids[k] (nlAt t nodes k) < 0
      · have HV : Hid (nlOut vars defs (d + 1) t nodes = -1) := nlOut_kid_bad vars defs d t nodes k hlt hneg hpos
        go_wp2_with fail
        go_ret
        exact ⟨ret_int HV.out.symm, HB3.out⟩
      · have hkid := nlOut_kid vars defs d t nodes k hlt (by omega)
        have HV : Hid (nlOut vars defs d t.kids[k] (nlAt t nodes k) = nlAt t nodes (k + 1)) := hkid.1
        have HA2 : Hid ((t.kids.take (k + 1)).all (shB vars defs d) = true) := by rw [Hid, all_take_succ _ _ _ hlt, HA.out, hkid.2]; rfl
        have hnn : 0 ≤ nlAt t nodes (k + 1) := by rw [← HV.out]; omega
        clear hkid
        go_wp2_with fail
        go_roundw
        case rel => exact ⟨k + 1, by omega, by go_num, by rw [HV.out], hnn, HA2.out, HB3.out⟩
        case measure => simp [intOf]; omega
    · have hke : t.kids.length = k := by omega
      have HV : Hid (nlOut vars defs (d + 1) t nodes = nlAt t nodes k) := by
        have h2 := HA.out
        rw [← hke] at hpos h2 ⊢
        exact nlOut_end vars defs d t nodes HT.out h2 hpos
      clear hke hb
      go_wp2_with fail
      go_ret
      exact ⟨ret_int HV.out.symm, HBW.out⟩
theorem nl_step (vars defs : Int) (d : Nat) (t : Tr) (hd : d ≤ 100) (ih : ∀ i (hi : i < t.kids.length), ∀ d', d' < d → NlSaid vars defs d' (t.kids[i])) : NlSaid vars defs d t := by
  intro c nodes w hk h0 h1
  have key : ∀ (T : TypeId) (x : Value) (K : FuncId) (ok fit : Bool), NodeAt vars defs t.op t.num t.kids.length T x K ok fit →
      Calls Try.prog 91 #[.agg #[.int .i64 t.op, .int .i64 t.num, c], .int .i64 vars, .int .i64 defs, .int .i64 (d : Int), .int .i64 nodes] w fun e w' => e = .returned (.int .i64 (nlOut vars defs d t nodes)) ∧ Below w.heap.size w w' := by
    intro T x K ok fit hn
    by_cases hl : topB t vars defs = false ∨ d = 0 ∨ nodes = 0
    · obtain ⟨ad, cap, rfl, -, -, -⟩ := hk
      exact nl_leave vars defs d t T x K ok fit hn ad cap nodes w hl
    · simp only [not_or, Bool.not_eq_false] at hl
      obtain ⟨e, rfl⟩ : ∃ e, d = e + 1 := ⟨d - 1, by omega⟩
      exact nl_go vars defs e t T x K ok fit hn c nodes w (fun i hi => ih i hi e (by omega)) hk hl.1 (by omega) h1 (by omega)
  by_cases e1 : t.op = 1
  · exact key _ _ _ _ _ (nodeAt_1 vars defs t.op t.num t.kids.length e1)
  by_cases e2 : t.op = 2
  · exact key _ _ _ _ _ (nodeAt_2 vars defs t.op t.num t.kids.length e2)
  by_cases e3 : t.op = 3
  · exact key _ _ _ _ _ (nodeAt_3 vars defs t.op t.num t.kids.length e3)
  exact key _ _ _ _ _ (nodeAt_o vars defs t.op t.num t.kids.length e1 e2 e3)

theorem nl_any (vars defs : Int) : ∀ (d : Nat) (t : Tr), d ≤ 100 → NlSaid vars defs d t := by
  intro d
  induction d using Nat.strongRecOn with
  | ind d ih => intro t h; exact nl_step vars defs d t h fun i hi d' hd' => ih d' hd' _ (by omega)

set_option maxHeartbeats 400000 in
/-- THE PROGRAM's ExprValid -/
theorem implValid_calls (t : Tr) (vars defs : Int) (c : Value) (w : World) (hk : In w t.kids c) : Calls Try.prog 80 #[.agg #[.int .i64 t.op, .int .i64 t.num, c], .int .i64 vars, .int .i64 defs] w fun e w' => e = .returned (.bool (validB t vars defs)) ∧ Below w.heap.size w w' := by
  have HK : Hid (In w t.kids c) := hk
  clear hk
  have HBX : Hid (Below w.heap.size w (w.alloc (.cells #[.int .i64 t.op, .int .i64 t.num, c] 37))) := box_below _ _
  by_cases hv0 : 0 ≤ vars
  · by_cases hv4 : vars ≤ 4
    · by_cases hd0 : 0 ≤ defs
      · by_cases hd6 : defs ≤ 6
        · have HV : Hid (validB t vars defs = decide (0 ≤ nlOut vars defs 16 t 60)) := by
            simp only [Hid, validB]
            rw [decide_eq_true (show 0 ≤ vars ∧ vars ≤ 4 ∧ 0 ≤ defs ∧ defs ≤ 6 from ⟨hv0, hv4, hd0, hd6⟩), Bool.true_and]
            unfold nlOut
            cases hs : shB vars defs 16 t with
            | false => simp
            | true =>
              simp only [true_and, Bool.true_and]
              rw [decide_eq_decide]
              split <;> omega
          have hrg := nlOut_range vars defs 16 t 60 (by omega)
          go_enter Try.func80, Try.ntmps80
          go_wp2_with fail
          refine (nl_any vars defs 16 t (by omega) c _ _ (HK.out.next HBX.out) (by omega) (by omega)).mono ?_
          rintro e w2 ⟨rfl, hb2⟩
          have HB2 : Hid (Below w.heap.size w w2) := HBX.out.trans (hb2.mono HBX.out.size)
          clear hb2
          go_wp2_with fail
          go_ret
          exact ⟨ret_bool HV.out.symm, HB2.out⟩
        · have HV : Hid (validB t vars defs = false) := by
            simp only [Hid, validB]
            rw [decide_eq_false (show ¬ (0 ≤ vars ∧ vars ≤ 4 ∧ 0 ≤ defs ∧ defs ≤ 6) by omega), Bool.false_and]
          go_enter Try.func80, Try.ntmps80
          go_wp2_with fail
          go_ret
          exact ⟨ret_bool HV.out.symm, HBX.out⟩
      · have HV : Hid (validB t vars defs = false) := by
          simp only [Hid, validB]
          rw [decide_eq_false (show ¬ (0 ≤ vars ∧ vars ≤ 4 ∧ 0 ≤ defs ∧ defs ≤ 6) by omega), Bool.false_and]
        go_enter Try.func80, Try.ntmps80
        go_wp2_with fail
        go_ret
        exact ⟨ret_bool HV.out.symm, HBX.out⟩
    · have HV : Hid (validB t vars defs = false) := by
        simp only [Hid, validB]
        rw [decide_eq_false (show ¬ (0 ≤ vars ∧ vars ≤ 4 ∧ 0 ≤ defs ∧ defs ≤ 6) by omega), Bool.false_and]
      go_enter Try.func80, Try.ntmps80
      go_wp2_with fail
      go_ret
      exact ⟨ret_bool HV.out.symm, HBX.out⟩
  · have HV : Hid (validB t vars defs = false) := by
      simp only [Hid, validB]
      rw [decide_eq_false (show ¬ (0 ≤ vars ∧ vars ≤ 4 ∧ 0 ≤ defs ∧ defs ≤ 6) by omega), Bool.false_and]
    go_enter Try.func80, Try.ntmps80
    go_wp2_with fail
    go_ret
    exact ⟨ret_bool HV.out.symm, HBX.out⟩
end Go.Proofs.Ythknbafcnobgdaa
/-
  PAIRS OF PLACES: what a list of pairs still to be compared, and the pairs seen, say of two trees. No program is named here.
-/
namespace Go.Proofs.Ythknbafcnobgdaa
set_option linter.unusedVariables false
set_option linter.unusedSimpArgs false
open Go.RowKit

/-- the place of operand i of the tree at a place -/
def KidAt (w : World) (x : Addr) (i : Nat) (z : Addr) : Prop :=
  ∃ bl off kb ko n cap, x = ⟨bl, off, none⟩ ∧ w.cell? ⟨bl, off + 2, none⟩ = some (.slice (some ⟨kb, ko, none⟩) n cap) ∧ z = ⟨kb, ko + i * 3, none⟩
theorem KidAt.uniq {w : World} {x z z' : Addr} {i : Nat} (h : KidAt w x i z) (h' : KidAt w x i z') : z = z' := by
  obtain ⟨bl, off, kb, ko, n, cap, rfl, hc, rfl⟩ := h
  obtain ⟨bl', off', kb', ko', n', cap', e, hc', rfl⟩ := h'
  simp only [Addr.mk.injEq] at e
  obtain ⟨rfl, rfl, -⟩ := e
  rw [hc] at hc'
  simp only [Option.some.injEq, Value.slice.injEq, Addr.mk.injEq] at hc'
  obtain ⟨⟨rfl, rfl, -⟩, -⟩ := hc'
  rfl
theorem LiesAt.kid {w : World} {S : Nat → Prop} {x : Addr} {s : Tr} (h : LiesAt w S x s) (i : Nat) (hi : i < s.kids.length) : ∃ z, KidAt w x i z ∧ LiesAt w S z s.kids[i] := by
  obtain ⟨bl, off, a, b, c, rfl, hs, h0, h1, h2, ht⟩ := h
  obtain ⟨-, -, -, -, ad, cap, rfl, -, -, hr⟩ := trOn_iff.1 ht
  rcases hr with hr | ⟨kb, ko, rfl, hk, hr⟩
  · rw [hr] at hi; simp at hi
  · exact ⟨_, ⟨bl, off, kb, ko, _, _, rfl, h2, rfl⟩, RowOn.liesAt hi hk hr⟩
theorem KidAt.lies {w : World} {S : Nat → Prop} {x z : Addr} {s : Tr} {i : Nat} (h : KidAt w x i z) (hx : LiesAt w S x s) (hi : i < s.kids.length) : LiesAt w S z s.kids[i] := by
  obtain ⟨z', hz, hl⟩ := hx.kid i hi
  rw [h.uniq hz]
  exact hl

/-- two places and their trees -/
structure Wk where
  x : Addr
  y : Addr
  s : Tr
  t : Tr
def Wk.key (e : Wk) : Addr × Addr := (e.x, e.y)
def WkOk (w : World) (S : Nat → Prop) (Q : Prop) (e : Wk) : Prop := LiesAt w S e.x e.s ∧ LiesAt w S e.y e.t ∧ (Q → e.s = e.t)
/-- trees lie at both places -/
def Pair2 (w : World) (S : Nat → Prop) (k : Addr × Addr) : Prop := ∃ s t, LiesAt w S k.1 s ∧ LiesAt w S k.2 t
abbrev Mp := Addr × Addr → Option Value
/-- the first operands of both are at one place, or have been seen -/
def KidsSeen (w : World) (M : Mp) (k : Addr × Addr) (m : Nat) : Prop := ∀ i, i < m → ∀ z z', KidAt w k.1 i z → KidAt w k.2 i z' → z = z' ∨ (M (z, z')).isSome = true
def Done (w : World) (S : Nat → Prop) (M : Mp) (k : Addr × Addr) : Prop := ∀ s t, LiesAt w S k.1 s → LiesAt w S k.2 t → s.op = t.op ∧ s.num = t.num ∧ s.kids.length = t.kids.length ∧ KidsSeen w M k s.kids.length
def Seen (root : Addr × Addr) (M : Mp) (k : Addr × Addr) : Prop := k = root ∨ (M k).isSome = true
def Inv (w : World) (S : Nat → Prop) (root : Addr × Addr) (M : Mp) (l : List Wk) (cur : Option (Addr × Addr)) : Prop :=
  ∀ k, Seen root M k → cur = some k ∨ (∃ e ∈ l, e.key = k) ∨ Done w S M k

theorem pput_some {κ : Type} [DecidableEq κ] {M : κ → Option Value} {a : κ} {v : Value} {k : κ} (h : (M k).isSome = true) : (pput M a v k).isSome = true := by
  unfold pput; split <;> simp_all
theorem KidsSeen.put {w : World} {M : Mp} {k a : Addr × Addr} {m : Nat} {v : Value} (h : KidsSeen w M k m) : KidsSeen w (pput M a v) k m :=
  fun i hi z z' hz hz' => (h i hi z z' hz hz').imp id pput_some
theorem Done.put {w : World} {S : Nat → Prop} {M : Mp} {k a : Addr × Addr} {v : Value} (h : Done w S M k) : Done w S (pput M a v) k :=
  fun s t hs ht => by
    obtain ⟨h1, h2, h3, h4⟩ := h s t hs ht
    exact ⟨h1, h2, h3, h4.put⟩

theorem Inv.start (w : World) (S : Nat → Prop) (e : Wk) : Inv w S e.key (fun _ => none) [e] none := by
  intro k hk
  rcases hk with rfl | hk
  · exact Or.inr (Or.inl ⟨e, by simp, rfl⟩)
  · simp at hk
theorem Inv.pop {w : World} {S : Nat → Prop} {root : Addr × Addr} {M : Mp} {l : List Wk} {e : Wk} (h : Inv w S root M (l ++ [e]) none) : Inv w S root M l (some e.key) := by
  intro k hk
  rcases h k hk with h | ⟨d, hd, hdk⟩ | h
  · cases h
  · rw [List.mem_append] at hd
    rcases hd with hd | hd
    · exact Or.inr (Or.inl ⟨d, hd, hdk⟩)
    · rw [List.mem_singleton] at hd
      subst hd
      exact Or.inl (by rw [hdk])
  · exact Or.inr (Or.inr h)
theorem Inv.push {w : World} {S : Nat → Prop} {root : Addr × Addr} {M : Mp} {l : List Wk} {cur : Option (Addr × Addr)} (h : Inv w S root M l cur) (e : Wk) (v : Value) : Inv w S root (pput M e.key v) (l ++ [e]) cur := by
  intro k hk
  by_cases hke : k = e.key
  · exact Or.inr (Or.inl ⟨e, by simp, hke.symm⟩)
  · have hk' : Seen root M k := by
      rcases hk with hk | hk
      · exact Or.inl hk
      · rw [pput_other _ _ hke] at hk; exact Or.inr hk
    rcases h k hk' with h | ⟨d, hd, hdk⟩ | h
    · exact Or.inl h
    · exact Or.inr (Or.inl ⟨d, by simp [hd], hdk⟩)
    · exact Or.inr (Or.inr h.put)
theorem Inv.close {w : World} {S : Nat → Prop} {root : Addr × Addr} {M : Mp} {l : List Wk} {k0 : Addr × Addr} (h : Inv w S root M l (some k0)) (hd : Done w S M k0) : Inv w S root M l none := by
  intro k hk
  rcases h k hk with h | h | h
  · cases h; exact Or.inr (Or.inr hd)
  · exact Or.inr (Or.inl h)
  · exact Or.inr (Or.inr h)
theorem KidsSeen.zero (w : World) (M : Mp) (k : Addr × Addr) : KidsSeen w M k 0 := fun i hi => absurd hi (by omega)
theorem KidsSeen.succ {w : World} {M : Mp} {k : Addr × Addr} {m : Nat} {z z' : Addr} (h : KidsSeen w M k m) (hz : KidAt w k.1 m z) (hz' : KidAt w k.2 m z') (hs : z = z' ∨ (M (z, z')).isSome = true) : KidsSeen w M k (m + 1) := by
  intro i hi y y' hy hy'
  by_cases e : i = m
  · subst e
    rw [hy.uniq hz, hy'.uniq hz']
    exact hs
  · exact h i (by omega) y y' hy hy'
theorem Done.of {w : World} {S : Nat → Prop} {M : Mp} {e : Wk} {Q : Prop} (he : WkOk w S Q e) (h1 : e.s.op = e.t.op) (h2 : e.s.num = e.t.num) (h3 : e.s.kids.length = e.t.kids.length) (h4 : KidsSeen w M e.key e.s.kids.length) : Done w S M e.key := by
  intro s t hs ht
  rw [LiesAt.uniq hs he.1, LiesAt.uniq ht he.2.1]
  exact ⟨h1, h2, h3, h4⟩

theorem tr_ext2 {a b : Tr} (h1 : a.op = b.op) (h2 : a.num = b.num) (h3 : a.kids = b.kids) : a = b := by cases a; cases b; simp_all

/-- nothing is left to compare: the trees of every pair seen are equal -/
theorem Inv.done {w : World} {S : Nat → Prop} {root : Addr × Addr} {M : Mp} (h : Inv w S root M [] none) : ∀ (n : Nat) (k : Addr × Addr) (s t : Tr), szT s ≤ n → Seen root M k → LiesAt w S k.1 s → LiesAt w S k.2 t → s = t := by
  intro n
  induction n using Nat.strongRecOn with
  | ind n ih =>
    intro k s t hz hk hs ht
    rcases h k hk with h | ⟨e, he, -⟩ | h
    · cases h
    · simp at he
    · obtain ⟨h1, h2, h3, h4⟩ := h s t hs ht
      refine tr_ext2 h1 h2 (List.ext_getElem h3 fun i hi hi' => ?_)
      obtain ⟨z, hz1, hl⟩ := hs.kid i hi
      obtain ⟨z', hz2, hl'⟩ := ht.kid i hi'
      rcases h4 i hi z z' hz1 hz2 with e | hsn
      · subst e
        exact LiesAt.uniq hl hl'
      · have hlt := szT_lt_szL s.kids i hi
        rw [← szT_eq] at hlt
        exact ih (szT s.kids[i]) (by omega) (z, z') _ _ (Nat.le_refl _) (Or.inr hsn) hl hl'

/-- how much there is to compare -/
def wkSz (l : List Wk) : Nat := (l.map fun e => 1 + szT e.s).sum
theorem wkSz_snoc (l : List Wk) (e : Wk) : wkSz (l ++ [e]) = wkSz l + (1 + szT e.s) := by simp [wkSz]
theorem wkSz_len (l : List Wk) : l.length ≤ wkSz l := by
  induction l with
  | nil => simp [wkSz]
  | cons e l ih => simp only [wkSz, List.map_cons, List.sum_cons, List.length_cons] at ih ⊢; omega

/-- pairs, as cells -/
def wkCells (l : List Wk) : List Value := l.flatMap fun e => [.pointer (some e.x), .pointer (some e.y)]
theorem wkCells_length (l : List Wk) : (wkCells l).length = l.length * 2 := by
  induction l with
  | nil => rfl
  | cons d l ih =>
    show ([_, _] ++ wkCells l).length = _
    rw [List.length_append, ih]
    simp
    omega
theorem wkCells_snoc (l : List Wk) (e : Wk) : wkCells (l ++ [e]) = wkCells l ++ [.pointer (some e.x), .pointer (some e.y)] := by simp [wkCells]
theorem wkCells_one (l : List Wk) : ∀ u ∈ wkCells l, u.oneCell' = true := by
  intro u hu
  simp only [wkCells, List.mem_flatMap] at hu
  obtain ⟨d, -, hu⟩ := hu
  simp only [List.mem_cons, List.not_mem_nil, or_false] at hu
  rcases hu with rfl | rfl <;> rfl

/-- an owned row, cut at its end -/
theorem own_cut {w : World} {base size n m g cap : Nat} {T : TypeId} {xs ys : List Value} (h : w.ownsRow base T size (.slice (some ⟨g, 0, none⟩) n cap) n (xs ++ ys)) (hl : xs.length = m * size) (hm : m ≤ n) : w.ownsRow base T size (.slice (some ⟨g, 0, none⟩) m cap) m xs := by
  obtain ⟨h1, h2⟩ := h
  rcases h2 with ⟨h2, -⟩ | ⟨g', cap', cur, e, hg, hh, hn, hc, hs, htk⟩
  · cases h2
  · cases e
    refine ⟨hl, Or.inr ⟨_, _, cur, rfl, hg, hh, by omega, hc, hs, ?_⟩⟩
    have h3 : m * size ≤ n * size := Nat.mul_le_mul_right _ hm
    have := congrArg (List.take (m * size)) htk
    rw [List.take_take, Nat.min_eq_left h3] at this
    rw [this, ← hl, List.take_left]
theorem own_at {w : World} {base size n g cap : Nat} {T : TypeId} {xs : List Value} (h : w.ownsRow base T size (.slice (some ⟨g, 0, none⟩) n cap) n xs) (j : Nat) (u : Value) (hu : xs[j]? = some u) : w.cell? ⟨g, j, none⟩ = some u := by
  rcases h.2 with ⟨h2, -⟩ | ⟨g', cap', cur, e, hg, hh, hn, hc, hs, htk⟩
  · cases h2
  · cases e
    have hlt : j < n * size := by
      have := (List.getElem?_eq_some_iff.1 hu).1
      rw [h.1] at this
      exact this
    rw [← htk, List.getElem?_take_of_lt hlt, Array.getElem?_toList] at hu
    simp only [World.cell?, hh]
    exact hu
end Go.Proofs.Ythknbafcnobgdaa
/-
  COUNTING NODES: a path of nodes that are being counted, and the counts that are known; what they say of a tree. No program is named here.
-/
namespace Go.Proofs.Ythknbafcnobgdaa
set_option linter.unusedVariables false
set_option linter.unusedSimpArgs false
open Go.RowKit

mutual
/-- how many nodes of a tree are wanted -/
def cntT (p : Tr → Bool) : Tr → Nat
  | .node o n ks => (if p (.node o n ks) then 1 else 0) + cntL p ks
/-- .. of a list of trees -/
def cntL (p : Tr → Bool) : List Tr → Nat
  | [] => 0
  | t :: ts => cntT p t + cntL p ts
end
theorem cntT_eq (p : Tr → Bool) (t : Tr) : cntT p t = (if p t then 1 else 0) + cntL p t.kids := by cases t; simp [cntT]
theorem cntL_sum (p : Tr → Bool) : ∀ (l : List Tr), cntL p l = (l.map (cntT p)).sum
  | [] => by simp [cntL]
  | t :: ts => by rw [cntL, cntL_sum p ts]; simp
theorem cntL_take_succ (p : Tr → Bool) (l : List Tr) (i : Nat) (h : i < l.length) : cntL p (l.take (i + 1)) = cntL p (l.take i) + cntT p l[i] := by
  rw [cntL_sum, cntL_sum, List.take_succ_eq_append_getElem h, List.map_append, List.sum_append]; simp
mutual
theorem cntT_le (p : Tr → Bool) : ∀ t : Tr, cntT p t ≤ 1 + szT t
  | .node o n ks => by
    have := cntL_le p ks
    simp only [cntT, szT]
    split <;> omega
theorem cntL_le (p : Tr → Bool) : ∀ l : List Tr, cntL p l ≤ szL l
  | [] => by simp [cntL, szL]
  | t :: ts => by
    have := cntT_le p t
    have := cntL_le p ts
    simp only [cntL, szL]
    omega
end
theorem cntL_take_le (p : Tr → Bool) (l : List Tr) (i : Nat) : cntL p (l.take i) ≤ szL l := Nat.le_trans (cntL_le p _) (szL_take_le l i)
mutual
theorem cntT_all : ∀ t : Tr, cntT (fun _ => true) t = 1 + szT t
  | .node o n ks => by
    have := cntL_all ks
    simp only [cntT, szT]
    simp [this]
theorem cntL_all : ∀ l : List Tr, cntL (fun _ => true) l = szL l
  | [] => by simp [cntL, szL]
  | t :: ts => by
    have := cntT_all t
    have := cntL_all ts
    simp only [cntL, szL]
    omega
end

/-- a node that is being counted: where, its tree, the operands counted, the sum so far -/
structure Fr where
  x : Addr
  t : Tr
  nx : Nat
  sm : Nat
abbrev Mc := Addr → Option Value
/-- the place of operand i, as a function -/
def kidAddr (w : World) (x : Addr) (i : Nat) : Addr :=
  match w.cell? ⟨x.block, x.off + 2, none⟩ with
  | some (.slice (some a) _ _) => ⟨a.block, a.off + i * 3, none⟩
  | _ => x
theorem KidAt.addr {w : World} {x z : Addr} {i : Nat} (h : KidAt w x i z) : kidAddr w x i = z := by
  obtain ⟨bl, off, kb, ko, n, cap, rfl, hc, rfl⟩ := h
  simp [kidAddr, hc]
def FrOk (w : World) (S : Nat → Prop) (p : Tr → Bool) (f : Fr) : Prop :=
  LiesAt w S f.x f.t ∧ f.nx ≤ f.t.kids.length ∧ f.sm = (if p f.t then 1 else 0) + cntL p (f.t.kids.take f.nx)
/-- the nodes lie in one another, the last one innermost -/
def Nest : List Fr → Prop
  | [] => True
  | f :: fs => (∀ g ∈ fs, szT g.t < szT f.t) ∧ Nest fs
theorem Nest.snoc : ∀ {l : List Fr} {f : Fr}, Nest l → (∀ g ∈ l, szT f.t < szT g.t) → Nest (l ++ [f])
  | [], f, _, _ => by simp [Nest]
  | g :: l, f, h, hf => by
    simp only [List.cons_append, Nest] at h ⊢
    refine ⟨fun d hd => ?_, Nest.snoc h.2 fun d hd => hf d (by simp [hd])⟩
    rw [List.mem_append] at hd
    rcases hd with hd | hd
    · exact h.1 d hd
    · rw [List.mem_singleton] at hd; subst hd; exact hf g (by simp)
theorem Nest.init : ∀ {l : List Fr} {f : Fr}, Nest (l ++ [f]) → Nest l ∧ ∀ g ∈ l, szT f.t < szT g.t
  | [], f, _ => by simp [Nest]
  | g :: l, f, h => by
    simp only [List.cons_append, Nest] at h ⊢
    obtain ⟨h1, h2⟩ := Nest.init h.2
    refine ⟨⟨fun d hd => h.1 d (by simp [hd]), h1⟩, fun d hd => ?_⟩
    rw [List.mem_cons] at hd
    rcases hd with rfl | hd
    · exact h.1 f (by simp)
    · exact h2 d hd
/-- what is known: a count, or that the node is on the path -/
def Known (w : World) (S : Nat → Prop) (p : Tr → Bool) (l : List Fr) (k : Addr) (v : Value) : Prop :=
  ∃ t, LiesAt w S k t ∧ (v = .int .i64 (cntT p t) ∨ (v = .int .i64 (-1) ∧ ∃ f ∈ l, f.x = k))
def TInv (w : World) (S : Nat → Prop) (p : Tr → Bool) (M : Mc) (l : List Fr) : Prop :=
  (∀ f ∈ l, FrOk w S p f) ∧ Nest l ∧ ∀ k v, M k = some v → Known w S p l k v

/-- what is still to be done -/
def wtOf (M : Mc) (k : Addr) (t : Tr) : Nat := if (M k).isSome then 1 else 3 * (1 + szT t)
def remL (w : World) (M : Mc) (x : Addr) : Nat → List Tr → Nat
  | _, [] => 0
  | i, k :: ks => wtOf M (kidAddr w x i) k + remL w M x (i + 1) ks
def remF (w : World) (M : Mc) (f : Fr) : Nat := remL w M f.x f.nx (f.t.kids.drop f.nx)
def remP (w : World) (M : Mc) (l : List Fr) : Nat := (l.map (remF w M)).sum + l.length
theorem wtOf_put (M : Mc) (a k : Addr) (v : Value) (t : Tr) : wtOf (pput M a v) k t ≤ wtOf M k t := by
  unfold wtOf
  by_cases h : (M k).isSome = true
  · rw [if_pos h, if_pos (pput_some h)]; exact Nat.le_refl _
  · rw [if_neg h]; split <;> omega
theorem remL_put (w : World) (M : Mc) (a x : Addr) (v : Value) : ∀ (l : List Tr) (i : Nat), remL w (pput M a v) x i l ≤ remL w M x i l
  | [], _ => by simp [remL]
  | k :: ks, i => by
    have := remL_put w M a x v ks (i + 1)
    have := wtOf_put M a (kidAddr w x i) v k
    simp only [remL]
    omega
theorem remP_put (w : World) (M : Mc) (a : Addr) (v : Value) : ∀ (l : List Fr), (l.map (remF w (pput M a v))).sum ≤ (l.map (remF w M)).sum
  | [] => by simp
  | f :: l => by
    have := remP_put w M a v l
    have := remL_put w M a f.x v (f.t.kids.drop f.nx) f.nx
    simp only [List.map_cons, List.sum_cons, remF] at this ⊢
    omega
theorem remL_le (w : World) (M : Mc) (x : Addr) : ∀ (l : List Tr) (i : Nat), remL w M x i l ≤ 3 * szL l
  | [], _ => by simp [remL, szL]
  | k :: ks, i => by
    have := remL_le w M x ks (i + 1)
    have : wtOf M (kidAddr w x i) k ≤ 3 * (1 + szT k) := by unfold wtOf; split <;> omega
    simp only [remL, szL]
    omega
theorem remF_at (w : World) (M : Mc) (f : Fr) (h : f.nx < f.t.kids.length) : remF w M f = wtOf M (kidAddr w f.x f.nx) f.t.kids[f.nx] + remL w M f.x (f.nx + 1) (f.t.kids.drop (f.nx + 1)) := by
  unfold remF
  rw [List.drop_eq_getElem_cons h]
  rfl
theorem remP_snoc (w : World) (M : Mc) (l : List Fr) (f : Fr) : remP w M (l ++ [f]) = (l.map (remF w M)).sum + l.length + (remF w M f + 1) := by
  simp [remP]; omega

/-- a node is counted: it leaves the path -/
theorem TInv.pop {w : World} {S : Nat → Prop} {p : Tr → Bool} {M : Mc} {l : List Fr} {f : Fr} (h : TInv w S p M (l ++ [f])) (hf : f.nx = f.t.kids.length) :
    TInv w S p (pput M f.x (.int .i64 (f.sm : Int))) l ∧ f.sm = cntT p f.t ∧ remP w (pput M f.x (.int .i64 (f.sm : Int))) l < remP w M (l ++ [f]) := by
  obtain ⟨h1, h2, h3⟩ := h
  obtain ⟨f1, -, f3⟩ := h1 f (by simp)
  have hsm : f.sm = cntT p f.t := by rw [f3, cntT_eq, hf, List.take_length]
  refine ⟨⟨fun g hg => h1 g (by simp [hg]), h2.init.1, fun k v hk => ?_⟩, hsm, ?_⟩
  · by_cases e : k = f.x
    · subst e
      rw [pput_same] at hk
      cases hk
      exact ⟨f.t, f1, Or.inl (by rw [hsm])⟩
    · rw [pput_other _ _ e] at hk
      obtain ⟨t, ht, hv⟩ := h3 k v hk
      refine ⟨t, ht, hv.imp id fun ⟨e1, g, hg, hgx⟩ => ⟨e1, g, ?_, hgx⟩⟩
      rw [List.mem_append] at hg
      rcases hg with hg | hg
      · exact hg
      · rw [List.mem_singleton] at hg; subst hg; exact absurd hgx.symm e
  · rw [remP_snoc]
    have := remP_put w M f.x (.int .i64 (f.sm : Int)) l
    unfold remP
    omega
/-- an operand that is counted already -/
theorem TInv.found {w : World} {S : Nat → Prop} {p : Tr → Bool} {M : Mc} {l : List Fr} {f : Fr} (h : TInv w S p M (l ++ [f])) (hf : f.nx < f.t.kids.length) {v : Value} (hv : M (kidAddr w f.x f.nx) = some v) :
    v = .int .i64 (cntT p f.t.kids[f.nx] : Int) ∧ TInv w S p M (l ++ [⟨f.x, f.t, f.nx + 1, f.sm + cntT p f.t.kids[f.nx]⟩]) ∧ remP w M (l ++ [⟨f.x, f.t, f.nx + 1, f.sm + cntT p f.t.kids[f.nx]⟩]) < remP w M (l ++ [f]) := by
  obtain ⟨h1, h2, h3⟩ := h
  obtain ⟨f1, f2, f3⟩ := h1 f (by simp)
  obtain ⟨n1, n2⟩ := h2.init
  obtain ⟨z, hz, hl⟩ := f1.kid f.nx hf
  have hza := hz.addr
  have hlt := szT_lt_szL f.t.kids f.nx hf
  rw [← szT_eq] at hlt
  refine ⟨?_, ⟨fun g hg => ?_, ?_, fun k u hk => ?_⟩, ?_⟩
  · obtain ⟨t, ht, hv'⟩ := h3 _ v hv
    rw [hza] at ht hv'
    have := ht.uniq hl
    subst this
    rcases hv' with hv' | ⟨-, g, hg, hgx⟩
    · exact hv'
    · exfalso
      have hg1 := (h1 g hg).1
      rw [hgx] at hg1
      have he := hg1.uniq hl
      rw [List.mem_append] at hg
      rcases hg with hg | hg
      · have := n2 g hg; rw [he] at this; omega
      · rw [List.mem_singleton] at hg; subst hg; have := congrArg szT he; omega
  · rw [List.mem_append] at hg
    rcases hg with hg | hg
    · exact h1 g (by simp [hg])
    · rw [List.mem_singleton] at hg
      subst hg
      refine ⟨f1, hf, ?_⟩
      show f.sm + _ = _
      rw [f3, cntL_take_succ p _ _ hf, Nat.add_assoc]
  · exact Nest.snoc n1 n2
  · obtain ⟨t, ht, hv'⟩ := h3 k u hk
    refine ⟨t, ht, hv'.imp id fun ⟨e1, g, hg, hgx⟩ => ⟨e1, ?_⟩⟩
    rw [List.mem_append] at hg
    rcases hg with hg | hg
    · exact ⟨g, by simp [hg], hgx⟩
    · rw [List.mem_singleton] at hg; subst hg; exact ⟨_, List.mem_append_right _ (List.mem_singleton.2 rfl), hgx⟩
  · rw [remP_snoc, remP_snoc, remF_at w M f hf]
    have : wtOf M (kidAddr w f.x f.nx) f.t.kids[f.nx] = 1 := by unfold wtOf; rw [hv]; rfl
    rw [this]
    show _ + _ + (remL w M f.x (f.nx + 1) (f.t.kids.drop (f.nx + 1)) + 1) < _
    omega
/-- an operand that is new: it goes onto the path -/
theorem TInv.push {w : World} {S : Nat → Prop} {p : Tr → Bool} {M : Mc} {l : List Fr} {f : Fr} (h : TInv w S p M (l ++ [f])) (hf : f.nx < f.t.kids.length) (hv : M (kidAddr w f.x f.nx) = none) :
    TInv w S p (pput M (kidAddr w f.x f.nx) (.int .i64 (-1))) (l ++ [f] ++ [⟨kidAddr w f.x f.nx, f.t.kids[f.nx], 0, if p f.t.kids[f.nx] then 1 else 0⟩]) ∧
      remP w (pput M (kidAddr w f.x f.nx) (.int .i64 (-1))) (l ++ [f] ++ [⟨kidAddr w f.x f.nx, f.t.kids[f.nx], 0, if p f.t.kids[f.nx] then 1 else 0⟩]) < remP w M (l ++ [f]) := by
  obtain ⟨h1, h2, h3⟩ := h
  obtain ⟨f1, f2, f3⟩ := h1 f (by simp)
  obtain ⟨n1, n2⟩ := h2.init
  obtain ⟨z, hz, hl⟩ := f1.kid f.nx hf
  have hza := hz.addr
  have hlt := szT_lt_szL f.t.kids f.nx hf
  rw [← szT_eq] at hlt
  refine ⟨⟨fun g hg => ?_, ?_, fun k u hk => ?_⟩, ?_⟩
  · rw [List.mem_append] at hg
    rcases hg with hg | hg
    · exact h1 g hg
    · rw [List.mem_singleton] at hg
      subst hg
      exact ⟨by rw [hza]; exact hl, Nat.zero_le _, by simp [cntL]⟩
  · refine Nest.snoc h2 fun g hg => ?_
    rw [List.mem_append] at hg
    rcases hg with hg | hg
    · have := n2 g hg
      show szT f.t.kids[f.nx] < _
      omega
    · rw [List.mem_singleton] at hg; subst hg; exact hlt
  · by_cases e : k = kidAddr w f.x f.nx
    · subst e
      rw [pput_same] at hk
      cases hk
      exact ⟨_, by rw [hza]; exact hl, Or.inr ⟨rfl, _, List.mem_append_right _ (List.mem_singleton.2 rfl), rfl⟩⟩
    · rw [pput_other _ _ e] at hk
      obtain ⟨t, ht, hv'⟩ := h3 k u hk
      exact ⟨t, ht, hv'.imp id fun ⟨e1, g, hg, hgx⟩ => ⟨e1, g, List.mem_append_left _ hg, hgx⟩⟩
  · rw [remP_snoc, remP_snoc, List.map_append, List.sum_append]
    have a1 := remP_put w M (kidAddr w f.x f.nx) (.int .i64 (-1)) l
    have a2 := remF_at w M f hf
    have a3 := remF_at w (pput M (kidAddr w f.x f.nx) (.int .i64 (-1))) f hf
    have a4 := remL_put w M (kidAddr w f.x f.nx) f.x (.int .i64 (-1)) (f.t.kids.drop (f.nx + 1)) (f.nx + 1)
    have b1 : wtOf M (kidAddr w f.x f.nx) f.t.kids[f.nx] = 3 * (1 + szT f.t.kids[f.nx]) := by unfold wtOf; rw [hv]; simp
    have b2 : wtOf (pput M (kidAddr w f.x f.nx) (.int .i64 (-1))) (kidAddr w f.x f.nx) f.t.kids[f.nx] = 1 := by unfold wtOf; rw [pput_same]; rfl
    have a5 : remF w (pput M (kidAddr w f.x f.nx) (.int .i64 (-1))) ⟨kidAddr w f.x f.nx, f.t.kids[f.nx], 0, if p f.t.kids[f.nx] then 1 else 0⟩ ≤ 3 * szT f.t.kids[f.nx] := by
      have := remL_le w (pput M (kidAddr w f.x f.nx) (.int .i64 (-1))) (kidAddr w f.x f.nx) (f.t.kids[f.nx]).kids 0
      rw [← szT_eq] at this
      simpa [remF] using this
    rw [b1] at a2
    rw [b2] at a3
    simp only [List.map_cons, List.map_nil, List.sum_cons, List.sum_nil, List.length_append, List.length_cons, List.length_nil]
    omega
theorem TInv.start {w : World} {S : Nat → Prop} {x : Addr} {t : Tr} (h : LiesAt w S x t) (p : Tr → Bool) : TInv w S p (fun _ => none) [⟨x, t, 0, if p t then 1 else 0⟩] := by
  refine ⟨fun f hf => ?_, by simp [Nest], fun k v hk => by simp at hk⟩
  rw [List.mem_singleton] at hf
  subst hf
  exact ⟨h, Nat.zero_le _, by simp [cntL]⟩
/-- how long the path is, how great a sum -/
theorem Nest.len : ∀ {l : List Fr} {n : Nat}, Nest l → (∀ f ∈ l, szT f.t < n) → l.length ≤ n
  | [], n, _, _ => by simp
  | f :: l, n, h, hb => by
    have h1 := hb f (by simp)
    have := Nest.len h.2 h.1
    simp only [List.length_cons]
    omega
/-- the first node -/
def HeadIs (a : Tr) (l : List Fr) : Prop := ∃ g r, l = g :: r ∧ g.t = a
theorem HeadIs.le {a : Tr} {l : List Fr} (h : HeadIs a l) (hn : Nest l) : (∀ f ∈ l, szT f.t ≤ szT a) ∧ l.length ≤ szT a + 1 := by
  obtain ⟨g, r, rfl, rfl⟩ := h
  refine ⟨fun f hf => ?_, ?_⟩
  · rw [List.mem_cons] at hf
    rcases hf with rfl | hf
    · exact Nat.le_refl _
    · exact Nat.le_of_lt (hn.1 f hf)
  · have := Nest.len hn.2 hn.1
    simp only [List.length_cons]
    omega
theorem HeadIs.snoc {a : Tr} {l : List Fr} (h : HeadIs a l) (f : Fr) : HeadIs a (l ++ [f]) := by
  obtain ⟨g, r, rfl, h⟩ := h
  exact ⟨g, r ++ [f], by simp, h⟩
theorem HeadIs.init {a : Tr} {l : List Fr} {f : Fr} (h : HeadIs a (l ++ [f])) (hl : l ≠ []) : HeadIs a l := by
  obtain ⟨g, r, e, h⟩ := h
  cases l with
  | nil => exact absurd rfl hl
  | cons d l =>
    simp only [List.cons_append, List.cons.injEq] at e
    exact ⟨d, l, rfl, by rw [e.1]; exact h⟩
theorem HeadIs.last {a : Tr} {l : List Fr} {f f' : Fr} (h : HeadIs a (l ++ [f])) (ht : f'.t = f.t) : HeadIs a (l ++ [f']) := by
  obtain ⟨g, r, e, h⟩ := h
  cases l with
  | nil =>
    simp only [List.nil_append, List.cons.injEq] at e
    exact ⟨f', [], rfl, by rw [ht, e.1]; exact h⟩
  | cons d l =>
    simp only [List.cons_append, List.cons.injEq] at e
    exact ⟨d, l ++ [f'], by simp, by rw [e.1]; exact h⟩
theorem HeadIs.one {a : Tr} {f : Fr} (h : HeadIs a ([] ++ [f])) : f.t = a := by
  obtain ⟨g, r, e, h⟩ := h
  simp only [List.nil_append, List.cons.injEq] at e
  rw [e.1]; exact h
/-- a place in a later world -/
theorem LiesAt.carry {w w' : World} {x : Addr} {t : Tr} (h : LiesAt w (Pl w) x t) (hb : Below w.heap.size w w') : LiesAt w' (Lt w'.heap.size) x t := by
  obtain ⟨bl, off, a, b, c, rfl, hp, h0, h1, h2, ht⟩ := h
  exact ⟨bl, off, a, b, c, rfl, Nat.lt_of_lt_of_le hp.1 hb.size, (hb.cell (p := ⟨bl, off, none⟩) hp.1).trans h0, (hb.cell (p := ⟨bl, off + 1, none⟩) hp.1).trans h1, (hb.cell (p := ⟨bl, off + 2, none⟩) hp.1).trans h2,
    ht.mono (fun k hk => Nat.lt_of_lt_of_le hk.1 hb.size) (fun k hk => hb.block k hk.1)⟩
/-- nodes, as cells -/
def frCells (l : List Fr) : List Value := l.flatMap fun f => [.pointer (some f.x), .int .i64 (f.nx : Int), .int .i64 (f.sm : Int)]
theorem frCells_length (l : List Fr) : (frCells l).length = l.length * 3 := by
  induction l with
  | nil => rfl
  | cons d l ih =>
    show ([_, _, _] ++ frCells l).length = _
    rw [List.length_append, ih]
    simp
    omega
theorem frCells_snoc (l : List Fr) (f : Fr) : frCells (l ++ [f]) = frCells l ++ [.pointer (some f.x), .int .i64 (f.nx : Int), .int .i64 (f.sm : Int)] := by simp [frCells]
theorem frCells_one (l : List Fr) : ∀ u ∈ frCells l, u.oneCell' = true := by
  intro u hu
  simp only [frCells, List.mem_flatMap] at hu
  obtain ⟨d, -, hu⟩ := hu
  simp only [List.mem_cons, List.not_mem_nil, or_false] at hu
  rcases hu with rfl | rfl | rfl <;> rfl
theorem frCells_top (l : List Fr) (f : Fr) : (frCells (l ++ [f]))[l.length * 3]? = some (.pointer (some f.x)) ∧ (frCells (l ++ [f]))[l.length * 3 + 1]? = some (.int .i64 (f.nx : Int)) ∧ (frCells (l ++ [f]))[l.length * 3 + 2]? = some (.int .i64 (f.sm : Int)) := by
  rw [frCells_snoc, ← frCells_length]
  refine ⟨?_, ?_, ?_⟩
  · rw [List.getElem?_append_right (by omega)]; simp
  · rw [List.getElem?_append_right (by omega)]; simp
  · rw [List.getElem?_append_right (by omega)]; simp
theorem frCells_set (l : List Fr) (f : Fr) (n s : Nat) : ((frCells (l ++ [f])).set (l.length * 3 + 2) (.int .i64 (s : Int))).set (l.length * 3 + 1) (.int .i64 (n : Int)) = frCells (l ++ [⟨f.x, f.t, n, s⟩]) := by
  rw [frCells_snoc, frCells_snoc, ← frCells_length]
  rw [List.set_append_right _ _ (by omega), List.set_append_right _ _ (by omega)]
  simp
end Go.Proofs.Ythknbafcnobgdaa
/-
  REPLACING VARIABLES, plainly: the tree, its size, its variables. No program is named here.
-/
namespace Go.Proofs.Ythknbafcnobgdaa
set_option linter.unusedVariables false
set_option linter.unusedSimpArgs false
open Go.RowKit

mutual
/-- a tree with its variables replaced -/
def sbT (args : List Tr) : Tr → Tr
  | .node o n ks => if o = 1 then args.getD n.toNat default else .node o n (sbL args ks)
def sbL (args : List Tr) : List Tr → List Tr
  | [] => []
  | t :: ts => sbT args t :: sbL args ts
end
theorem sbT_eq (args : List Tr) (t : Tr) : sbT args t = if t.op = 1 then args.getD t.num.toNat default else .node t.op t.num (sbL args t.kids) := by cases t; simp [sbT]
theorem sbL_map (args : List Tr) : ∀ l : List Tr, sbL args l = l.map (sbT args)
  | [] => by simp [sbL]
  | t :: ts => by rw [sbL, sbL_map args ts]; rfl

/-- every node's variable has a place among so many -/
def VarOk (n : Nat) (t : Tr) : Prop := t.op = 1 → 0 ≤ t.num ∧ t.num < n ∧ t.kids = []
mutual
def AllT (P : Tr → Prop) : Tr → Prop
  | .node o n ks => P (.node o n ks) ∧ AllL P ks
def AllL (P : Tr → Prop) : List Tr → Prop
  | [] => True
  | t :: ts => AllT P t ∧ AllL P ts
end
theorem allT_iff (P : Tr → Prop) (t : Tr) : AllT P t ↔ P t ∧ AllL P t.kids := by cases t; simp [AllT]
theorem allL_iff (P : Tr → Prop) : ∀ l : List Tr, AllL P l ↔ ∀ t ∈ l, AllT P t
  | [] => by simp [AllL]
  | t :: ts => by simp [AllL, allL_iff P ts]
theorem AllT.kid {P : Tr → Prop} {t : Tr} (h : AllT P t) (i : Nat) (hi : i < t.kids.length) : AllT P t.kids[i] := (allL_iff P _).1 ((allT_iff P t).1 h).2 _ (List.getElem_mem hi)
theorem allT_true (P : Tr → Prop) (hP : ∀ t, P t) : ∀ (n : Nat) (t : Tr), szT t ≤ n → AllT P t := by
  intro n
  induction n with
  | zero =>
    intro t h
    refine (allT_iff P t).2 ⟨hP t, (allL_iff P _).2 fun k hk => ?_⟩
    obtain ⟨i, hi, rfl⟩ := List.getElem_of_mem hk
    exact absurd (szT_lt_szL t.kids i hi) (by rw [szT_eq] at h; omega)
  | succ n ih =>
    intro t h
    refine (allT_iff P t).2 ⟨hP t, (allL_iff P _).2 fun k hk => ?_⟩
    obtain ⟨i, hi, rfl⟩ := List.getElem_of_mem hk
    exact ih _ (by have := szT_lt_szL t.kids i hi; rw [szT_eq] at h; omega)
/-- what a well-formed tree's variables are -/
theorem varOk_of_sh (vars : Nat) (defs : Int) : ∀ (d : Nat) (t : Tr), shB vars defs d t = true → AllT (VarOk vars) t
  | 0, t, h => by simp [shB] at h
  | d + 1, t, h => by
    unfold shB at h
    simp only [Bool.and_eq_true, decide_eq_true_eq, List.all_eq_true] at h
    obtain ⟨⟨h1, h2⟩, h3⟩ := h
    refine (allT_iff _ t).2 ⟨fun ho => ?_, (allL_iff _ _).2 fun k hk => varOk_of_sh vars defs d k (h3 k hk)⟩
    unfold ownB at h2
    rw [if_pos ho] at h2
    simp only [decide_eq_true_eq] at h2
    unfold arity at h1
    rw [if_pos (Or.inl ho)] at h1
    exact ⟨h2.1, h2.2, List.eq_nil_of_length_eq_zero (by omega)⟩

/-- is a node the variable i? -/
def isVar (i : Nat) (t : Tr) : Bool := t.op == 1 && t.num == (i : Int)
/-- what the arguments add, so often -/
def gain (args : List Tr) (u : Nat → Nat) : Nat := ((List.range args.length).map fun i => u i * szT (args.getD i default)).sum
theorem sum_map_add (l : List Nat) (f g : Nat → Nat) : (l.map fun i => f i + g i).sum = (l.map f).sum + (l.map g).sum := by
  induction l with
  | nil => rfl
  | cons a l ih => simp only [List.map_cons, List.sum_cons, ih]; omega
theorem sum_map_zero (l : List Nat) : (l.map fun _ => 0).sum = 0 := by
  induction l with
  | nil => rfl
  | cons a l ih => simpa using ih
theorem gain_add (args : List Tr) (u v : Nat → Nat) : gain args (fun i => u i + v i) = gain args u + gain args v := by
  unfold gain
  rw [← sum_map_add]
  congr 1
  refine List.map_congr_left fun i _ => ?_
  rw [Nat.add_mul]
theorem gain_congr (args : List Tr) (u v : Nat → Nat) (h : ∀ i, i < args.length → u i = v i) : gain args u = gain args v := by
  unfold gain
  congr 1
  refine List.map_congr_left fun i hi => ?_
  rw [h i (List.mem_range.1 hi)]
theorem gain_zero (args : List Tr) : gain args (fun _ => 0) = 0 := by
  unfold gain
  rw [List.map_congr_left (g := fun _ => 0) (fun i _ => Nat.zero_mul _), sum_map_zero]
theorem sum_one (n j : Nat) (f : Nat → Nat) (h : j < n) : ((List.range n).map fun i => (if i = j then 1 else 0) * f i).sum = f j := by
  induction n with
  | zero => omega
  | succ n ih =>
    rw [List.range_succ, List.map_append, List.sum_append]
    simp only [List.map_cons, List.map_nil, List.sum_cons, List.sum_nil, Nat.add_zero]
    by_cases hj : j = n
    · subst hj
      have : ((List.range j).map fun i => (if i = j then 1 else 0) * f i).sum = 0 := by
        rw [List.map_congr_left (g := fun _ => 0) (fun i hi => ?_), sum_map_zero]
        have := List.mem_range.1 hi
        rw [if_neg (by omega), Nat.zero_mul]
      rw [this, if_pos rfl]
      omega
    · rw [ih (by omega), if_neg (fun e => hj e.symm)]
      omega
theorem gain_one (args : List Tr) (j : Nat) (h : j < args.length) : gain args (fun i => if i = j then 1 else 0) = szT (args.getD j default) := by
  unfold gain
  exact sum_one args.length j (fun i => szT (args.getD i default)) h

mutual
/-- the size of the result -/
theorem sz_sbT (args : List Tr) : ∀ t : Tr, AllT (VarOk args.length) t → szT (sbT args t) = szT t + gain args (fun i => cntT (isVar i) t)
  | .node o n ks, h => by
    obtain ⟨h1, h2⟩ := (allT_iff _ _).1 h
    by_cases ho : o = 1
    · obtain ⟨g1, g2, g3⟩ := h1 ho
      simp only [Tr.num_node, Tr.kids_node] at g1 g2 g3
      subst ho
      subst g3
      have hj : n.toNat < args.length := by omega
      simp only [sbT, if_true, szT, szL, Nat.zero_add]
      rw [← gain_one args n.toNat hj]
      refine gain_congr args _ _ fun i hi => ?_
      simp only [cntT, cntL, Nat.add_zero, isVar, Tr.op_node, Tr.num_node]
      by_cases hin : i = n.toNat
      · obtain rfl : n = (i : Int) := by omega
        simp
      · have : ¬ n = (i : Int) := by omega
        simp [hin, this]
    · have hk := sz_sbL args ks h2
      simp only [sbT, if_neg ho, szT, hk]
      congr 1
      refine gain_congr args _ _ fun i hi => ?_
      simp [cntT, isVar, ho]
theorem sz_sbL (args : List Tr) : ∀ l : List Tr, AllL (VarOk args.length) l → szL (sbL args l) = szL l + gain args (fun i => cntL (isVar i) l)
  | [], _ => by
    simp only [sbL, szL, cntL, Nat.zero_add]
    exact (gain_zero args).symm
  | t :: ts, h => by
    simp only [AllL] at h
    have h1 := sz_sbT args t h.1
    have h2 := sz_sbL args ts h.2
    simp only [sbL, szL, h1, h2]
    rw [show (fun i => cntL (isVar i) (t :: ts)) = fun i => cntT (isVar i) t + cntL (isVar i) ts from rfl, gain_add]
    omega
end
end Go.Proofs.Ythknbafcnobgdaa
