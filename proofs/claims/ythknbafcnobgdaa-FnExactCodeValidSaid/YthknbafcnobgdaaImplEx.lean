/-
  THE PROGRAM's execute AT EXPRESSIONS: the stack of trees, in new memory, each tree with its own blocks; nothing that was there is changed.
-/
import Derived.Test.YthknbafcnobgdaaCloneE
import Derived.Test.YthknbafcnobgdaaUnwind
import Derived.Test.YthknbafcnobgdaaImplHt
import Derived.Deep.DeepCutAuto
namespace Go.Proofs.Ythknbafcnobgdaa
set_option linter.unusedVariables false
set_option linter.unusedSimpArgs false
open Go.RowKit

/-- the node of an instruction and its operands -/
def PutRes (o n : Int) (kv : Value) (w : World) (e : Ending) (w' : World) : Prop := e = .returned (.agg #[.int .i64 o, .int .i64 n, kv]) ∧ Below w.heap.size w w'
set_option maxHeartbeats 400000 in
theorem put_calls (o n : Int) (ad : Option Addr) (nn cap : Nat) (w : World) : Calls Try.prog 79 #[.agg #[.int .i64 o, .int .i64 n], .slice ad nn cap] w (PutRes o n (.slice ad nn cap) w) := by
  go_enter Try.func79, Try.ntmps79
  go_wp2_with fail
  refine bodyPost_ret (v := .agg #[.int .i64 o, .int .i64 n, .slice ad nn cap]) (by simp [results, Try.results79, go_sem]) rfl ⟨rfl, ?_⟩
  repeat' (refine Below.setCell ?_ (by simp) _)
  exact ((Below.refl _ _).alloc (Nat.le_refl _) _).alloc (by simp) _
theorem own_lower {w : World} {lo lo' n size : Nat} {T : TypeId} {v : Value} {xs : List Value} (h : w.ownsRow lo' T size v n xs) (hl : lo ≤ lo') : w.ownsRow lo T size v n xs := by
  refine ⟨h.1, h.2.imp id ?_⟩
  rintro ⟨g, cap, cur, e, hg, r⟩
  exact ⟨g, cap, cur, e, Nat.le_trans hl hg, r⟩
theorem set3_other {w4 : World} {b k i : Nat} (h : k ≠ b) (x y z : Value) (_ : True) : (((w4.setCell ⟨b, 0, none⟩ x).setCell ⟨b, 1, none⟩ y).setCell ⟨b, 2, none⟩ z).cell? ⟨k, i, none⟩ = w4.cell? ⟨k, i, none⟩ := by
  refine World.cell?_of_block ?_
  show (((w4.setCell ⟨b, 0, none⟩ x).setCell ⟨b, 1, none⟩ y).setCell ⟨b, 2, none⟩ z).heap[k]? = w4.heap[k]?
  rw [Below.heap_setCell _ _ _ _ h, Below.heap_setCell _ _ _ _ h, Below.heap_setCell _ _ _ _ h]
theorem own_nob {w W : World} {n size : Nat} {T : TypeId} {v : Value} {xs : List Value} {o : Obj} (h : w.ownsRow (W.alloc o).heap.size T size v n xs) : some W.heap.size ≠ v.ownBlock := fun e => by
  have := own_block h e
  rw [Deep.nblk_alloc] at this
  omega
theorem own_new {w : World} {lo n size : Nat} {T : TypeId} {v : Value} {xs : List Value} (h : w.ownsRow lo T size v n xs) : some w.heap.size ≠ v.ownBlock := fun e => by
  rcases h.2 with ⟨rfl, -⟩ | ⟨g, cap, cur, rfl, -, hh, -⟩
  · simp [Value.ownBlock] at e
  · simp only [Value.ownBlock, Option.some.injEq] at e
    have := (Array.getElem?_eq_some_iff.1 hh).1
    omega
/-- what holds behind the call that makes a node: it stands in a box, its operands in a new row -/
def ERel (wr : World) (n : Nat) (news : List Value) (o nn : Int) (kv : Value) (b : Nat) (wz : World) : Prop :=
  wz.heap[b]? = some (.cells #[.int .i64 o, .int .i64 nn, kv] 37) ∧ wz.ownsRow wr.heap.size 37 3 kv n news ∧ Below wr.heap.size wr wz ∧ wr.heap.size ≤ b
theorem erel_alloc {wr w4 : World} {n : Nat} {news : List Value} {o nn : Int} {kv : Value} (hk : w4.ownsRow wr.heap.size 37 3 kv n news) (hb : Below wr.heap.size wr w4) : ERel wr n news o nn kv w4.heap.size (w4.alloc (.cells #[.int .i64 o, .int .i64 nn, kv] 37)) :=
  ⟨Deep.blk_alloc_new _ _, own_keep hk (fun j _ hj => Deep.blk_alloc_lt _ _ _ hj), hb.alloc hb.size _, hb.size⟩
theorem rowE_cells {w : World} {g : Nat} {T : TypeId} {f : Nat → Value} (h : w.rowIs g T 3 f) : w.heap[g]? = some (.cells #[f 0, f 1, f 2] T) := by
  obtain ⟨cur, hc, hs, hv⟩ := h
  rw [hc]
  have hx : cur = #[f 0, f 1, f 2] := by
    apply Array.ext_getElem?
    intro i
    by_cases hi : i < 3
    · rw [hv i (by omega)]
      rcases (by omega : i = 0 ∨ i = 1 ∨ i = 2) with rfl | rfl | rfl <;> rfl
    · rw [Array.getElem?_eq_none (by omega), Array.getElem?_eq_none (by simp; omega)]
  rw [hx]
theorem own_grown {lo n size : Nat} {T : TypeId} {w0 W w6 : World} {v : Value} {xs : List Value} (hx : W.ownsRow lo T size v n xs) (hl : lo = w0.heap.size) (hb : Below w0.heap.size w0 W) (hg : W.grownBy w6 v.ownBlock) : Below w0.heap.size w0 w6 :=
  ⟨by rw [hg.os]; exact hb.os, by rw [hg.tape]; exact hb.tape, by rw [hg.output]; exact hb.output, Nat.le_trans hb.size hg.size, fun k hk => (hg.block k (Nat.lt_of_lt_of_le hk hb.size) (fun e => by have := own_block hx e; omega)).trans (hb.block k hk)⟩
theorem box_kept {wr wc w6 : World} {n b m cap : Nat} {news : List Value} {o nn : Int} {kv : Value} {ad : Option Addr} {obj : Obj} (h : ERel wr n news o nn kv b wc) (ho : ∀ j, (Value.slice ad m cap).ownBlock = some j → j < wr.heap.size)
    (hg : (wc.alloc obj).drew.grownBy w6 (Value.slice ad m cap).ownBlock) : w6.heap[b]? = some (.cells #[.int .i64 o, .int .i64 nn, kv] 37) := by
  have hbl := (Array.getElem?_eq_some_iff.1 h.1).1
  refine (hg.block b (by show b < (wc.alloc obj).heap.size; rw [Deep.nblk_alloc]; omega) (fun e => ?_)).trans ((Deep.blk_alloc_lt wc _ _ hbl).trans h.1)
  have := ho b e.symm
  have := h.2.2.2
  omega
theorem erel_set {wr w4 : World} {n b : Nat} {news : List Value} {o nn : Int} {kv : Value} (hk : w4.ownsRow wr.heap.size 37 3 kv n news) (hb : Below wr.heap.size wr w4) (hz : w4.heap[b]? = some (.cells #[.int .i64 0, .int .i64 0, .slice none 0 0] 37)) (hlo : wr.heap.size ≤ b) (hne : some b ≠ kv.ownBlock) :
    ERel wr n news o nn kv b (((w4.setCell ⟨b, 0, none⟩ (.int .i64 o)).setCell ⟨b, 1, none⟩ (.int .i64 nn)).setCell ⟨b, 2, none⟩ kv) := by
  refine ⟨?_, ?_, ((hb.setCell hlo _).setCell hlo _).setCell hlo _, hlo⟩
  · have hr : w4.rowIs b 37 3 (boxF 0 0 (.slice none 0 0)) := ⟨_, hz, rfl, box3 _ _ _⟩
    have h3 := rowE_cells (((hr.set 0 (.int .i64 o)).set 1 (.int .i64 nn)).set 2 kv)
    rw [h3]
    simp
  · refine ⟨hk.1, hk.2.imp id ?_⟩
    rintro ⟨g, cap, cur, rfl, hg, hh, r⟩
    have hgb : g ≠ b := fun e => hne (by rw [e]; rfl)
    refine ⟨g, cap, cur, rfl, hg, ?_, r⟩
    rw [Below.heap_setCell _ _ _ _ hgb, Below.heap_setCell _ _ _ _ hgb, Below.heap_setCell _ _ _ _ hgb]
    exact hh
theorem own_slice {w : World} {lo n size : Nat} {T : TypeId} {v : Value} {xs : List Value} (h : w.ownsRow lo T size v n xs) : ∃ ad n cap, v = .slice ad n cap := by
  rcases h.2 with ⟨rfl, -⟩ | ⟨g, cap, cur, rfl, -⟩
  · exact ⟨_, _, _, rfl⟩
  · exact ⟨_, _, _, rfl⟩

theorem runC_len {cs : List Ins} {s : List Tr} {k : Nat} (h : runC [] (cs.take k) = some s) (hk : k ≤ cs.length) : s.length ≤ k := by
  have e := runC_ds [] [] (cs.take k) rfl
  rw [h, Option.map_some] at e
  cases e2 : dsC [] (cs.take k) with
  | none => rw [e2] at e; cases e
  | some ds =>
    rw [e2] at e
    simp only [Option.map_some, Option.some.injEq] at e
    rw [e]
    exact (dsC_take e2 hk).1
theorem runC_some {cs : List Ins} {s : List Tr} {k : Nat} (h : runC [] (cs.take k) = some s) (hk : k < cs.length) (h1 : 0 ≤ arity cs[k].op) (h2 : arN cs[k].op ≤ s.length) :
    runC [] (cs.take (k + 1)) = some (s.take (s.length - arN cs[k].op) ++ [.node cs[k].op cs[k].num (s.drop (s.length - arN cs[k].op))]) := by
  rw [runC_succ _ _ _ hk, h]
  simp [stp, h1, h2]
theorem runC_no {cs : List Ins} {s : List Tr} {k : Nat} (h : runC [] (cs.take k) = some s) (hk : k < cs.length) (h1 : ¬ (0 ≤ arity cs[k].op ∧ arN cs[k].op ≤ s.length)) : runC [] cs = none := by
  refine runC_stop (k := k + 1) ?_
  rw [runC_succ _ _ _ hk, h]
  simp [stp, h1]

/-- the stack in the end -/
def ExecRes (cs : List Ins) (w : World) (e : Ending) (w' : World) : Prop :=
  Below w.heap.size w w' ∧ match runC [] cs with
    | some s => ∃ v, e = .returned (.tuple #[v, .bool true]) ∧ OwnF w' w.heap.size w'.heap.size s v
    | none => e = .returned (.tuple #[.slice none 0 0, .bool false])
theorem OwnF.form {w : World} {lo hi : Nat} {ts : List Tr} {v : Value} (h : OwnF w lo hi ts v) : (v = .slice none 0 0 ∧ ts.length = 0) ∨ ∃ g cap, v = .slice (some ⟨g, 0, none⟩) ts.length cap ∧ lo ≤ g ∧ g < w.heap.size ∧ ts.length ≤ cap ∧ cap ≤ maxLen := by
  obtain ⟨xs, h1⟩ := h.row
  rcases h1.2 with h | ⟨g, cap, cur, rfl, hg, hh, hn, hc, -⟩
  · exact Or.inl h
  · exact Or.inr ⟨g, cap, rfl, hg, (Array.getElem?_eq_some_iff.1 hh).1, hn, hc⟩


set_option maxRecDepth 100000 in
set_option maxHeartbeats 1600000 in
theorem exec_calls (cs : List Ins) (c : Value) (w : World) (hk : InsIn w cs c) (hl : cs.length ≤ 1048576) (hw : ∀ c ∈ cs, I64 c.op ∧ I64 c.num) : Calls Try.prog 78 #[c, .func (.func 79) #[] #[]] w (ExecRes cs w) := by
  have HK : Hid (InsIn w cs c) := hk
  have HW := mkHid hw
  obtain ⟨ad, cap, rfl, -, -, -⟩ := hk
  obtain ⟨iE, zE, hII⟩ := infoE3
  have HE := mkHid hII
  clear hw hII
  go_enter Try.func78, Try.ntmps78
  go_wp2_with fail
  go_loopw [6, 15] (fun v i wr => ∃ (k : Nat) (s : List Tr), k ≤ cs.length ∧ i = .int .i64 k ∧ Hid (runC [] (cs.take k) = some s) ∧ OwnF wr w.heap.size wr.heap.size s v ∧ Below w.heap.size w wr) (fun _ i _ => cs.length - (intOf i).toNat)
  case atStart => exact ⟨0, [], Nat.zero_le _, rfl, rfl, OwnF.nil _ _ _, Below.refl _ _⟩
  case round =>
    obtain ⟨k, s, hk, rfl, HR, hown, hb⟩ := hrel
    have HO := mkHid hown
    have HB := mkHid hb
    have hsl := runC_len HR.out hk
    clear hown
    by_cases hlt : k < cs.length
    · obtain ⟨bl, off, rfl, -, c0, c1⟩ := (HK.out.next hb).at k hlt
      have HIW := mkHid (HW.out _ (List.getElem_mem hlt))
      have hq' : ∀ W : World, 0 ≤ arity cs[k].op ∧ arN cs[k].op ≤ s.length → Calls Try.prog 71 #[.agg #[.int .i64 cs[k].op, .int .i64 cs[k].num], .int .i64 (s.length : Int)] W fun e w' => e = .returned (.tuple #[.int .i64 ((s.length - arN cs[k].op : Nat) + 1 : Int), .bool true]) ∧ Below W.heap.size W w' := fun W h => (height_ok cs[k].op cs[k].num s.length W h.1 h.2 (by omega)).mono fun e w' h => ⟨by rw [h.1]; rfl, h.2⟩
      have hq2' : ∀ W : World, ¬ (0 ≤ arity cs[k].op ∧ arN cs[k].op ≤ s.length) → Calls Try.prog 71 #[.agg #[.int .i64 cs[k].op, .int .i64 cs[k].num], .int .i64 (s.length : Int)] W fun e w' => (∃ z : Int, e = .returned (.tuple #[.int .i64 z, .bool false])) ∧ Below W.heap.size W w' := fun W h => height_no cs[k].op cs[k].num s.length W h (by omega)
      have HQ := mkHid hq'
      have HQ2 := mkHid hq2'
      clear hb hq' hq2'
      by_cases hok : 0 ≤ arity cs[k].op ∧ arN cs[k].op ≤ s.length
      · have HN := mkHid (runC_some HR.out hlt hok.1 hok.2)
        have hq := HQ.out (wr.alloc (.cells #[.int .i64 cs[k].op, .int .i64 cs[k].num] 66)) hok
        have hm : s.length - arN cs[k].op ≤ s.length := by omega
        obtain ⟨m, hmm⟩ : ∃ m, m = s.length - arN cs[k].op := ⟨_, rfl⟩
        rw [← hmm] at hq HN hm
        clear hmm hok
        rcases HO.out.form with ⟨rfl, hs0⟩ | ⟨g, capg, rfl, hg1, hg2, hg3, hg4⟩
        · have hm0 : m = 0 := by omega
          subst hm0
          rw [hs0] at hq hm
          obtain ⟨xs, hx, hx1⟩ := HO.out.one
          have HX : Hid (wr.ownsRow w.heap.size 37 3 (.slice none 0 0) 0 xs) := by have h := hx; rw [hs0] at h; exact h
          have HM : Hid (0 ≤ 0) := hm
          have HTL : Hid (ECells wr (0 - 0) (xs.drop (0 * 3)) (.slice none 0 0)) := own_tail HX.out hx1 HM.out _ (Or.inl ⟨rfl, rfl⟩)
          have HWR : Hid (w.heap.size ≤ wr.heap.size) := HB.out.size
          clear hx hx1
          go_wp2_with fail
          refine hq.mono ?_
          rintro e w1 ⟨rfl, hb1⟩
          have HB1 : Hid (Below (wr.heap.size + 1) (wr.alloc (.cells #[.int .i64 cs[k].op, .int .i64 cs[k].num] 66)) w1) := by have h := hb1; rw [Deep.nblk_alloc] at h; exact h
          have HBX : Hid (w1.heap[wr.heap.size]? = some (.cells #[.int .i64 cs[k].op, .int .i64 cs[k].num] 66)) := (HB1.out.block _ (by omega)).trans (Deep.blk_alloc_new _ _)
          have HBR : Hid (Below wr.heap.size wr w1) := (box_below _ _).trans (HB1.out.mono (by omega))
          have x0 := cell_of_blk HBX.out 0 _ rfl
          have x1 := cell_of_blk HBX.out 1 _ rfl
          clear hb1
          go_upto_region 9 with fail
          go_cut [12, 15] from 15 to 43 (fun s12 s15 wx => s15 = .int .i64 (k : Int) ∧ ∃ b ad3 n3 cap3, s12 = .pointer (some ⟨b, 0, none⟩) ∧ ERel wr (0 - 0) (xs.drop (0 * 3)) cs[k].op cs[k].num (.slice ad3 n3 cap3) b wx)
          case first =>
            have HA1 : Hid (Below wr.heap.size wr (w1.drew.alloc (.cells #[.int .i64 0, .int .i64 0, .slice none 0 0] 37))) := HBR.out.drew.alloc HBR.out.drew.size _
            have g0 := old_cell (w := w1.drew) x0 (.cells #[.int .i64 0, .int .i64 0, .slice none 0 0] 37)
            have g1 := old_cell (w := w1.drew) x1 (.cells #[.int .i64 0, .int .i64 0, .slice none 0 0] 37)
            go_region_held3 (fun w' => w'.cell? ⟨wr.heap.size, 0, none⟩ = some (.int .i64 cs[k].op) ∧ w'.cell? ⟨wr.heap.size, 1, none⟩ = some (.int .i64 cs[k].num))
              (first
                | go_keep
                | exact ⟨e0, e1⟩
                | exact ⟨(set3_other HNB.out _ _ _ trivial).trans e0, (set3_other HNB.out _ _ _ trivial).trans e1⟩
                | exact ⟨h0, h1⟩
                | exact ⟨d0, d1⟩
                | exact ⟨g0, g1⟩
                | exact ⟨x0, x1⟩)
              (first
                | (go_at_call 90; refine (cloneE_calls (0 - 0) (xs.drop (0 * 3)) (.slice none 0 0) w1.drew (HTL.out.next HBR.out.drew) (by omega)).mono ?_; rintro e w3 ⟨kv, rfl, hk3, hb3⟩; have HK3 := mkHid (own_lower hk3 HBR.out.size); have HB3 := mkHid (HBR.out.drew.trans (hb3.mono HBR.out.drew.size)); have hbx3 := (hb3.block _ (Array.getElem?_eq_some_iff.1 HBX.out).1).trans HBX.out; have HL3 : Hid (wr.heap.size < w3.heap.size) := (Array.getElem?_eq_some_iff.1 hbx3).1; have d0 := cell_of_blk hbx3 0 _ rfl; have d1 := cell_of_blk hbx3 1 _ rfl; have h0 := old_cell d0 (.cells #[.int .i64 0, .int .i64 0, .slice none 0 0] 37); have h1 := old_cell d1 (.cells #[.int .i64 0, .int .i64 0, .slice none 0 0] 37); obtain ⟨ad3, n3, cap3, rfl⟩ := own_slice hk3; clear hk3 hb3 hbx3)
                | (go_at_call 90; refine (cloneE_calls (0 - 0) (xs.drop (0 * 3)) (.slice none 0 0) (w1.drew.alloc (.cells #[.int .i64 0, .int .i64 0, .slice none 0 0] 37)) (HTL.out.next HA1.out) (by omega)).mono ?_; rintro e w3 ⟨kv, rfl, hk3, hb3⟩; have HK3 := mkHid (own_lower hk3 HA1.out.size); have HB3 := mkHid (HA1.out.trans (hb3.mono HA1.out.size)); have hbx3 := (hb3.cell (p := ⟨wr.heap.size, 0, none⟩) (cell_lt g0)).trans g0; have hby3 := (hb3.cell (p := ⟨wr.heap.size, 1, none⟩) (cell_lt g1)).trans g1; have HZ3 : Hid (w3.heap[w1.heap.size]? = some (.cells #[.int .i64 0, .int .i64 0, .slice none 0 0] 37)) := (hb3.block _ (by rw [Deep.nblk_alloc]; exact Nat.lt_succ_self _)).trans (Deep.blk_alloc_new w1.drew _); have HNE3 := mkHid (own_nob hk3); have d0 := hbx3; have d1 := hby3; obtain ⟨ad3, n3, cap3, rfl⟩ := own_slice hk3; clear hk3 hb3 hbx3 hby3)
                | (have tk := HZ3; clear tk; go_at_call 79; refine (put_calls cs[k].op cs[k].num _ _ _ w3).mono ?_; rintro e w4 ⟨rfl, hb4⟩; have HB4 := mkHid (HB3.out.trans (hb4.mono HB3.out.size)); have HK4 := mkHid (own_keep HK3.out (fun j _ hj => hb4.block j hj)); have e0 := (hb4.cell (p := ⟨wr.heap.size, 0, none⟩) (cell_lt d0)).trans d0; have e1 := (hb4.cell (p := ⟨wr.heap.size, 1, none⟩) (cell_lt d1)).trans d1; have hz4 := (hb4.block _ (Array.getElem?_eq_some_iff.1 HZ3.out).1).trans HZ3.out; have HZ4 := mkHid hz4; have z0 := cell_of_blk hz4 0 _ rfl; have z1 := cell_of_blk hz4 1 _ rfl; have z2 := cell_of_blk hz4 2 _ rfl; have HNB : Hid (wr.heap.size ≠ w1.heap.size) := (by unfold Hid; have h1 := HBX.out; have h2 := (Array.getElem?_eq_some_iff.1 h1).1; have h3 := HB3.out.size; omega); have zf := fun i => frz_of_blk hz4 i; clear hb4 hz4)
                | (go_at_call 79; refine (put_calls cs[k].op cs[k].num _ _ _ w3).mono ?_; rintro e w4 ⟨rfl, hb4⟩; have HB4 := mkHid (HB3.out.trans (hb4.mono HB3.out.size)); have HK4 := mkHid (own_keep HK3.out (fun j _ hj => hb4.block j hj)); have e0 := (hb4.cell (p := ⟨wr.heap.size, 0, none⟩) (cell_lt d0)).trans d0; have e1 := (hb4.cell (p := ⟨wr.heap.size, 1, none⟩) (cell_lt d1)).trans d1; clear hb4)
                | (go_at_call 79; refine (put_calls cs[k].op cs[k].num _ _ _ (w3.alloc (.cells #[.int .i64 0, .int .i64 0, .slice none 0 0] 37))).mono ?_; rintro e w4 ⟨rfl, hb4⟩; have HA4 : Hid (Below wr.heap.size wr (w3.alloc (.cells #[.int .i64 0, .int .i64 0, .slice none 0 0] 37))) := HB3.out.alloc HB3.out.size _; have HB4 := mkHid (HA4.out.trans (hb4.mono HA4.out.size)); have HK4 := mkHid (own_keep (own_keep HK3.out (fun j _ hj => Deep.blk_alloc_lt _ (.cells #[.int .i64 0, .int .i64 0, .slice none 0 0] 37) _ hj)) (fun j _ hj => hb4.block j hj)); have e0 := (hb4.cell (p := ⟨wr.heap.size, 0, none⟩) (cell_lt h0)).trans h0; have e1 := (hb4.cell (p := ⟨wr.heap.size, 1, none⟩) (cell_lt h1)).trans h1; have hz4 := (hb4.block _ (by rw [Deep.nblk_alloc]; exact Nat.lt_succ_self _)).trans (Deep.blk_alloc_new w3 (.cells #[.int .i64 0, .int .i64 0, .slice none 0 0] 37)); have HZ4 := mkHid hz4; have HNE3 := mkHid (own_new HK3.out); have z0 := cell_of_blk hz4 0 _ rfl; have z1 := cell_of_blk hz4 1 _ rfl; have z2 := cell_of_blk hz4 2 _ rfl; have HNB : Hid (wr.heap.size ≠ w3.heap.size) := (by unfold Hid; have h1 := HL3.out; omega); have zf := fun i => frz_of_blk hz4 i; clear hb4 hz4))
            all_goals
              go_wp2_with fail
              go_meet
              first
                | exact ⟨rfl, _, _, _, _, rfl, erel_alloc HK4.out HB4.out⟩
                | exact ⟨rfl, _, _, _, _, rfl, erel_set HK4.out HB4.out HZ4.out HB3.out.size HNE3.out⟩
                | exact ⟨rfl, _, _, _, _, rfl, erel_set HK4.out HB4.out HZ4.out HBR.out.size HNE3.out⟩
          case rest =>
            obtain ⟨rfl, b, ad3, n3, cap3, rfl, her⟩ := hcut
            have HER := mkHid her
            have q0 := cell_of_blk her.1 0 _ rfl
            have q1 := cell_of_blk her.1 1 _ rfl
            have q2 := cell_of_blk her.1 2 _ rfl
            have HXM : Hid (wc.ownsRow w.heap.size 37 3 (.slice none 0 0) 0 (xs.take (0 * 3))) := own_keep (own_take HX.out hm) (fun j _ hj => HER.out.2.2.1.block j hj)
            clear her
            obtain ⟨adx, hadx⟩ : ∃ a : Option Addr, a = none := ⟨_, rfl⟩
            obtain ⟨cpx, hcpx⟩ : ∃ c : Nat, c = 0 := ⟨_, rfl⟩
            have HV0 : Hid (Value.slice none 0 0 = Value.slice adx 0 cpx) := by rw [hadx, hcpx]; rfl
            clear hadx hcpx
            have HOB : Hid (∀ j, (Value.slice adx 0 cpx).ownBlock = some j → j < wr.heap.size) := fun j hj => by rw [← HV0.out] at hj; simp [Value.ownBlock] at hj
            rw [HV0.out] at HXM ⊢
            go_wp2_with fail
            go_region_held3 (fun w' => w'.cell? ⟨b, 0, none⟩ = some (.int .i64 cs[k].op) ∧ w'.cell? ⟨b, 1, none⟩ = some (.int .i64 cs[k].num) ∧ w'.cell? ⟨b, 2, none⟩ = some (.slice ad3 n3 cap3))
              (first
                | go_keep
                | exact ⟨r0, r1, r2⟩
                | exact ⟨old_cell q0 _, old_cell q1 _, old_cell q2 _⟩
                | exact ⟨q0, q1, q2⟩)
              ((refine step_append_where (by rfl) (.tmp 39) (.tmp 41) 35 (by rfl) w.heap.size 37 iE zE 3 40 Try.underlying35 HE.out.1 HE.out.2.1 HE.out.2.2.1 HE.out.2.2.2.1 HE.out.2.2.2.2 (by decide) (.slice adx 0 cpx) 0 (xs.take (0 * 3)) (by rfl) (own_keep HXM.out (fun j _ hj => Deep.blk_alloc_lt wc _ _ hj)) ⟨wc.heap.size, 0, none⟩ 1 1 [.int .i64 cs[k].op, .int .i64 cs[k].num, .slice ad3 n3 cap3] (by rfl) (by rfl) (news3 wc _ _ _) (by simp [Value.oneCell']) (by unfold maxLen; omega) (by omega) (by show w.heap.size ≤ (wc.alloc _).heap.size; rw [Deep.nblk_alloc]; have h1 := HER.out.2.2.1.size; have h2 := HWR.out; omega) (by omega) ?_; intro v6 w6 hown6 hg6 hw6; have HOWN6 := mkHid hown6; have HG6 := mkHid hg6; have HW6 := mkHid hw6; have hb6 := box_kept HER.out HOB.out hg6; have r0 := cell_of_blk hb6 0 _ rfl; have r1 := cell_of_blk hb6 1 _ rfl; have r2 := cell_of_blk hb6 2 _ rfl; clear hown6 hg6 hw6))
            have HG7 : Hid ((wc.alloc (.cells #[.int .i64 cs[k].op, .int .i64 cs[k].num, .slice ad3 n3 cap3] 37)).grownBy w6 (Value.slice none 0 0).ownBlock) := by
              have h := HG6.out
              rw [← HV0.out] at h; exact ⟨h.os, h.tape, h.output, h.size, h.block⟩
            have HW7 : Hid (v6.ownBlock = (Value.slice none 0 0).ownBlock ∨ ∃ g, v6.ownBlock = some g ∧ (wc.alloc (.cells #[.int .i64 cs[k].op, .int .i64 cs[k].num, .slice ad3 n3 cap3] 37)).heap.size ≤ g) := by
              have h := HW6.out
              rw [← HV0.out] at h; exact h
            have HP : Hid (OwnF w6 w.heap.size w6.heap.size (s.take 0 ++ [.node cs[k].op cs[k].num (s.drop 0)]) v6) := OwnF.pop HO.out hs0.symm HM.out HWR.out HX.out HER.out.2.2.1 HER.out.2.1 HIW.out.1 HIW.out.2 HOWN6.out HG7.out HW7.out
            have HB6 : Hid (Below w.heap.size w w6) := own_grown (own_keep HXM.out (fun j _ hj => Deep.blk_alloc_lt wc (.cells #[.int .i64 cs[k].op, .int .i64 cs[k].num, .slice ad3 n3 cap3] 37) j hj)) rfl ((HB.out.trans (HER.out.2.2.1.mono HWR.out)).alloc (Nat.le_trans HWR.out HER.out.2.2.1.size) _) (by have h := HG6.out; exact (⟨h.os, h.tape, h.output, h.size, h.block⟩ : World.grownBy (wc.alloc _) w6 _))
            go_wp2_with fail
            go_roundw
            case rel => exact ⟨k + 1, _, by omega, by go_num, HN, HP.out, HB6.out⟩
            case measure => simp [intOf]; omega
        · unfold maxLen at hg4
          have hmle : m ≤ capg := by omega
          obtain ⟨xs, hx, hx1⟩ := HO.out.one
          have HX : Hid (wr.ownsRow w.heap.size 37 3 (.slice (some ⟨g, 0, none⟩) s.length capg) s.length xs) := by have h := hx;  exact h
          have HM : Hid (m ≤ s.length) := hm
          have HTL : Hid (ECells wr (s.length - m) (xs.drop (m * 3)) (.slice (if capg = m then some ⟨g, 0, none⟩ else some ⟨g, m * 3, none⟩) (s.length - m) (capg - m))) := own_tail HX.out hx1 HM.out _ (Or.inr ⟨g, rfl, rfl⟩)
          have HWR : Hid (w.heap.size ≤ wr.heap.size) := HB.out.size
          clear hx hx1
          go_wp2_with fail
          refine hq.mono ?_
          rintro e w1 ⟨rfl, hb1⟩
          have HB1 : Hid (Below (wr.heap.size + 1) (wr.alloc (.cells #[.int .i64 cs[k].op, .int .i64 cs[k].num] 66)) w1) := by have h := hb1; rw [Deep.nblk_alloc] at h; exact h
          have HBX : Hid (w1.heap[wr.heap.size]? = some (.cells #[.int .i64 cs[k].op, .int .i64 cs[k].num] 66)) := (HB1.out.block _ (by omega)).trans (Deep.blk_alloc_new _ _)
          have HBR : Hid (Below wr.heap.size wr w1) := (box_below _ _).trans (HB1.out.mono (by omega))
          have x0 := cell_of_blk HBX.out 0 _ rfl
          have x1 := cell_of_blk HBX.out 1 _ rfl
          clear hb1
          go_upto_region 9 with fail
          go_cut [12, 15] from 15 to 43 (fun s12 s15 wx => s15 = .int .i64 (k : Int) ∧ ∃ b ad3 n3 cap3, s12 = .pointer (some ⟨b, 0, none⟩) ∧ ERel wr (s.length - m) (xs.drop (m * 3)) cs[k].op cs[k].num (.slice ad3 n3 cap3) b wx)
          case first =>
            have HA1 : Hid (Below wr.heap.size wr (w1.drew.alloc (.cells #[.int .i64 0, .int .i64 0, .slice none 0 0] 37))) := HBR.out.drew.alloc HBR.out.drew.size _
            have g0 := old_cell (w := w1.drew) x0 (.cells #[.int .i64 0, .int .i64 0, .slice none 0 0] 37)
            have g1 := old_cell (w := w1.drew) x1 (.cells #[.int .i64 0, .int .i64 0, .slice none 0 0] 37)
            go_region_held3 (fun w' => w'.cell? ⟨wr.heap.size, 0, none⟩ = some (.int .i64 cs[k].op) ∧ w'.cell? ⟨wr.heap.size, 1, none⟩ = some (.int .i64 cs[k].num))
              (first
                | go_keep
                | exact ⟨e0, e1⟩
                | exact ⟨(set3_other HNB.out _ _ _ trivial).trans e0, (set3_other HNB.out _ _ _ trivial).trans e1⟩
                | exact ⟨h0, h1⟩
                | exact ⟨d0, d1⟩
                | exact ⟨g0, g1⟩
                | exact ⟨x0, x1⟩)
              (first
                | (go_at_call 90; generalize (if capg = m then (some ⟨g, 0, none⟩ : Option Addr) else some ⟨g, m * 3, none⟩) = tad at HTL ⊢; refine (cloneE_calls (s.length - m) (xs.drop (m * 3)) (.slice tad (s.length - m) (capg - m)) w1.drew (HTL.out.next HBR.out.drew) (by omega)).mono ?_; rintro e w3 ⟨kv, rfl, hk3, hb3⟩; have HK3 := mkHid (own_lower hk3 HBR.out.size); have HB3 := mkHid (HBR.out.drew.trans (hb3.mono HBR.out.drew.size)); have hbx3 := (hb3.block _ (Array.getElem?_eq_some_iff.1 HBX.out).1).trans HBX.out; have HL3 : Hid (wr.heap.size < w3.heap.size) := (Array.getElem?_eq_some_iff.1 hbx3).1; have d0 := cell_of_blk hbx3 0 _ rfl; have d1 := cell_of_blk hbx3 1 _ rfl; have h0 := old_cell d0 (.cells #[.int .i64 0, .int .i64 0, .slice none 0 0] 37); have h1 := old_cell d1 (.cells #[.int .i64 0, .int .i64 0, .slice none 0 0] 37); obtain ⟨ad3, n3, cap3, rfl⟩ := own_slice hk3; clear hk3 hb3 hbx3)
                | (go_at_call 90; generalize (if capg = m then (some ⟨g, 0, none⟩ : Option Addr) else some ⟨g, m * 3, none⟩) = tad at HTL ⊢; refine (cloneE_calls (s.length - m) (xs.drop (m * 3)) (.slice tad (s.length - m) (capg - m)) (w1.drew.alloc (.cells #[.int .i64 0, .int .i64 0, .slice none 0 0] 37)) (HTL.out.next HA1.out) (by omega)).mono ?_; rintro e w3 ⟨kv, rfl, hk3, hb3⟩; have HK3 := mkHid (own_lower hk3 HA1.out.size); have HB3 := mkHid (HA1.out.trans (hb3.mono HA1.out.size)); have hbx3 := (hb3.cell (p := ⟨wr.heap.size, 0, none⟩) (cell_lt g0)).trans g0; have hby3 := (hb3.cell (p := ⟨wr.heap.size, 1, none⟩) (cell_lt g1)).trans g1; have HZ3 : Hid (w3.heap[w1.heap.size]? = some (.cells #[.int .i64 0, .int .i64 0, .slice none 0 0] 37)) := (hb3.block _ (by rw [Deep.nblk_alloc]; exact Nat.lt_succ_self _)).trans (Deep.blk_alloc_new w1.drew _); have HNE3 := mkHid (own_nob hk3); have d0 := hbx3; have d1 := hby3; obtain ⟨ad3, n3, cap3, rfl⟩ := own_slice hk3; clear hk3 hb3 hbx3 hby3)
                | (have tk := HZ3; clear tk; go_at_call 79; refine (put_calls cs[k].op cs[k].num _ _ _ w3).mono ?_; rintro e w4 ⟨rfl, hb4⟩; have HB4 := mkHid (HB3.out.trans (hb4.mono HB3.out.size)); have HK4 := mkHid (own_keep HK3.out (fun j _ hj => hb4.block j hj)); have e0 := (hb4.cell (p := ⟨wr.heap.size, 0, none⟩) (cell_lt d0)).trans d0; have e1 := (hb4.cell (p := ⟨wr.heap.size, 1, none⟩) (cell_lt d1)).trans d1; have hz4 := (hb4.block _ (Array.getElem?_eq_some_iff.1 HZ3.out).1).trans HZ3.out; have HZ4 := mkHid hz4; have z0 := cell_of_blk hz4 0 _ rfl; have z1 := cell_of_blk hz4 1 _ rfl; have z2 := cell_of_blk hz4 2 _ rfl; have HNB : Hid (wr.heap.size ≠ w1.heap.size) := (by unfold Hid; have h1 := HBX.out; have h2 := (Array.getElem?_eq_some_iff.1 h1).1; have h3 := HB3.out.size; omega); have zf := fun i => frz_of_blk hz4 i; clear hb4 hz4)
                | (go_at_call 79; refine (put_calls cs[k].op cs[k].num _ _ _ w3).mono ?_; rintro e w4 ⟨rfl, hb4⟩; have HB4 := mkHid (HB3.out.trans (hb4.mono HB3.out.size)); have HK4 := mkHid (own_keep HK3.out (fun j _ hj => hb4.block j hj)); have e0 := (hb4.cell (p := ⟨wr.heap.size, 0, none⟩) (cell_lt d0)).trans d0; have e1 := (hb4.cell (p := ⟨wr.heap.size, 1, none⟩) (cell_lt d1)).trans d1; clear hb4)
                | (go_at_call 79; refine (put_calls cs[k].op cs[k].num _ _ _ (w3.alloc (.cells #[.int .i64 0, .int .i64 0, .slice none 0 0] 37))).mono ?_; rintro e w4 ⟨rfl, hb4⟩; have HA4 : Hid (Below wr.heap.size wr (w3.alloc (.cells #[.int .i64 0, .int .i64 0, .slice none 0 0] 37))) := HB3.out.alloc HB3.out.size _; have HB4 := mkHid (HA4.out.trans (hb4.mono HA4.out.size)); have HK4 := mkHid (own_keep (own_keep HK3.out (fun j _ hj => Deep.blk_alloc_lt _ (.cells #[.int .i64 0, .int .i64 0, .slice none 0 0] 37) _ hj)) (fun j _ hj => hb4.block j hj)); have e0 := (hb4.cell (p := ⟨wr.heap.size, 0, none⟩) (cell_lt h0)).trans h0; have e1 := (hb4.cell (p := ⟨wr.heap.size, 1, none⟩) (cell_lt h1)).trans h1; have hz4 := (hb4.block _ (by rw [Deep.nblk_alloc]; exact Nat.lt_succ_self _)).trans (Deep.blk_alloc_new w3 (.cells #[.int .i64 0, .int .i64 0, .slice none 0 0] 37)); have HZ4 := mkHid hz4; have HNE3 := mkHid (own_new HK3.out); have z0 := cell_of_blk hz4 0 _ rfl; have z1 := cell_of_blk hz4 1 _ rfl; have z2 := cell_of_blk hz4 2 _ rfl; have HNB : Hid (wr.heap.size ≠ w3.heap.size) := (by unfold Hid; have h1 := HL3.out; omega); have zf := fun i => frz_of_blk hz4 i; clear hb4 hz4))
            all_goals
              go_wp2_with fail
              go_meet
              first
                | exact ⟨rfl, _, _, _, _, rfl, erel_alloc HK4.out HB4.out⟩
                | exact ⟨rfl, _, _, _, _, rfl, erel_set HK4.out HB4.out HZ4.out HB3.out.size HNE3.out⟩
                | exact ⟨rfl, _, _, _, _, rfl, erel_set HK4.out HB4.out HZ4.out HBR.out.size HNE3.out⟩
          case rest =>
            obtain ⟨rfl, b, ad3, n3, cap3, rfl, her⟩ := hcut
            have HER := mkHid her
            have q0 := cell_of_blk her.1 0 _ rfl
            have q1 := cell_of_blk her.1 1 _ rfl
            have q2 := cell_of_blk her.1 2 _ rfl
            have HXM : Hid (wc.ownsRow w.heap.size 37 3 (.slice (some ⟨g, 0, none⟩) m capg) m (xs.take (m * 3))) := own_keep (own_take HX.out hm) (fun j _ hj => HER.out.2.2.1.block j hj)
            clear her
            have HOB : Hid (∀ j, (Value.slice (some ⟨g, 0, none⟩) m capg).ownBlock = some j → j < wr.heap.size) := fun j hj => (HX.out.lt j hj).2
            go_wp2_with fail
            go_region_held3 (fun w' => w'.cell? ⟨b, 0, none⟩ = some (.int .i64 cs[k].op) ∧ w'.cell? ⟨b, 1, none⟩ = some (.int .i64 cs[k].num) ∧ w'.cell? ⟨b, 2, none⟩ = some (.slice ad3 n3 cap3))
              (first
                | go_keep
                | exact ⟨r0, r1, r2⟩
                | exact ⟨old_cell q0 _, old_cell q1 _, old_cell q2 _⟩
                | exact ⟨q0, q1, q2⟩)
              ((refine step_append_where (by rfl) (.tmp 39) (.tmp 41) 35 (by rfl) w.heap.size 37 iE zE 3 40 Try.underlying35 HE.out.1 HE.out.2.1 HE.out.2.2.1 HE.out.2.2.2.1 HE.out.2.2.2.2 (by decide) (.slice (some ⟨g, 0, none⟩) m capg) m (xs.take (m * 3)) (by rfl) (own_keep HXM.out (fun j _ hj => Deep.blk_alloc_lt wc _ _ hj)) ⟨wc.heap.size, 0, none⟩ 1 1 [.int .i64 cs[k].op, .int .i64 cs[k].num, .slice ad3 n3 cap3] (by rfl) (by rfl) (news3 wc _ _ _) (by simp [Value.oneCell']) (by unfold maxLen; omega) (by omega) (by show w.heap.size ≤ (wc.alloc _).heap.size; rw [Deep.nblk_alloc]; have h1 := HER.out.2.2.1.size; have h2 := HWR.out; omega) (by omega) ?_; intro v6 w6 hown6 hg6 hw6; have HOWN6 := mkHid hown6; have HG6 := mkHid hg6; have HW6 := mkHid hw6; have hb6 := box_kept HER.out HOB.out hg6; have r0 := cell_of_blk hb6 0 _ rfl; have r1 := cell_of_blk hb6 1 _ rfl; have r2 := cell_of_blk hb6 2 _ rfl; clear hown6 hg6 hw6))
            have HG7 : Hid ((wc.alloc (.cells #[.int .i64 cs[k].op, .int .i64 cs[k].num, .slice ad3 n3 cap3] 37)).grownBy w6 (Value.slice (some ⟨g, 0, none⟩) m capg).ownBlock) := by
              have h := HG6.out
              exact ⟨h.os, h.tape, h.output, h.size, h.block⟩
            have HW7 : Hid (v6.ownBlock = (Value.slice (some ⟨g, 0, none⟩) m capg).ownBlock ∨ ∃ g, v6.ownBlock = some g ∧ (wc.alloc (.cells #[.int .i64 cs[k].op, .int .i64 cs[k].num, .slice ad3 n3 cap3] 37)).heap.size ≤ g) := by
              have h := HW6.out
              exact h
            have HP : Hid (OwnF w6 w.heap.size w6.heap.size (s.take m ++ [.node cs[k].op cs[k].num (s.drop m)]) v6) := OwnF.pop HO.out rfl HM.out HWR.out HX.out HER.out.2.2.1 HER.out.2.1 HIW.out.1 HIW.out.2 HOWN6.out HG7.out HW7.out
            have HB6 : Hid (Below w.heap.size w w6) := own_grown (own_keep HXM.out (fun j _ hj => Deep.blk_alloc_lt wc (.cells #[.int .i64 cs[k].op, .int .i64 cs[k].num, .slice ad3 n3 cap3] 37) j hj)) rfl ((HB.out.trans (HER.out.2.2.1.mono HWR.out)).alloc (Nat.le_trans HWR.out HER.out.2.2.1.size) _) (by have h := HG6.out; exact (⟨h.os, h.tape, h.output, h.size, h.block⟩ : World.grownBy (wc.alloc _) w6 _))
            go_wp2_with fail
            go_roundw
            case rel => exact ⟨k + 1, _, by omega, by go_num, HN, HP.out, HB6.out⟩
            case measure => simp [intOf]; omega
      · have HV := mkHid (runC_no HR.out hlt hok)
        have hq := HQ2.out (wr.alloc (.cells #[.int .i64 cs[k].op, .int .i64 cs[k].num] 66)) hok
        clear hok
        obtain ⟨ads, caps, rfl⟩ : ∃ ads caps, u6 = .slice ads s.length caps := by
          rcases HO.out.form with ⟨e, h⟩ | ⟨g, capg, e, -⟩
          · exact ⟨none, 0, by rw [e, h]⟩
          · exact ⟨_, _, e⟩
        go_wp2_with fail
        refine hq.mono ?_
        rintro e w1 ⟨⟨z, rfl⟩, hb1⟩
        have HB1 : Hid (Below w.heap.size w w1) := HB.out.trans (((box_below _ _).trans (hb1.mono (by rw [Deep.nblk_alloc]; omega))).mono HB.out.size)
        clear hb1
        go_wp2_with fail
        go_ret2
        refine ⟨HB1.out, ?_⟩
        rw [HV.out]
        rfl
    · have hke : k = cs.length := by omega
      have HV : Hid (runC [] cs = some s) := by
        have := HR.out
        rw [hke, List.take_length] at this
        exact this
      clear hke hb
      obtain ⟨ads, caps, rfl⟩ : ∃ ads caps, u6 = .slice ads s.length caps := by
        rcases HO.out.form with ⟨e, h⟩ | ⟨g, capg, e, -⟩
        · exact ⟨none, 0, by rw [e, h]⟩
        · exact ⟨_, _, e⟩
      go_wp2_with fail
      go_ret2
      refine ⟨HB.out, ?_⟩
      rw [HV.out]
      exact ⟨.slice ads s.length caps, rfl, HO.out⟩
end Go.Proofs.Ythknbafcnobgdaa
