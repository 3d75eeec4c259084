/-
  THE MODEL's l5Select AND SelectGraph.
-/
import Derived.Test.YtiipcgnkfhjpeaaGreatDoorMgExactEvalRun19
import Derived.Test.YtiipcgnkfhjpeaaGreatDoorMgExactEvalRun5
import Derived.Test.YtiipcgnkfhjpeaaGreatDoorMgExactEvalRun20
import Derived.Test.YtiipcgnkfhjpeaaGreatDoorMgExactEvalRun11
import Derived.Deep.LoopGhost
import Derived.Test.YtiipcgnkfhjpeaaGreatDoorMgExactEvalRun17
import Derived.Test.YtiipcgnkfhjpeaaGreatDoorMgExactEvalRun18
namespace Go.Proofs.YtiipcgnkfhjpeaaGreatDoor
set_option linter.unusedVariables false
set_option linter.unusedSimpArgs false
open Go.RowKit

/-- a graph in new rows, and a number -/
def NewGN (r : List Ce × Nat) (w : World) (e : Ending) (w' : World) : Prop :=
  ∃ gv, e = .returned (.tuple #[gv, .int .i64 (r.2 : Int)]) ∧ OwnC w' w.heap.size (fun b => w.heap.size ≤ b) r.1 gv ∧ Below w.heap.size w w'
/-- what holds at a cell of a round -/
structure SlRel (g : List Ce) (lo : Nat) (v : Value) (w : World) (m0 k m : Nat) (c : Bool) (G : List Ce) (wr : World) : Prop where
  rel : SelR g G m
  own : OwnC wr lo (fun b => lo ≤ b) G v
  bel : Below lo w wr
  le : m0 ≤ m
  yes : c = true → m0 < m
  no : c = false → m = m0 ∧ ∀ j < k, ∀ q, ¬ Enabled G j q
theorem SlRel.skip {g G : List Ce} {lo m0 k m : Nat} {v : Value} {w wr wr' : World} {c : Bool} (h : SlRel g lo v w m0 k m c G wr) (hb : Below wr.heap.size wr wr') (hl : lo ≤ wr.heap.size) (hn : ∀ q, ¬ Enabled G k q) : SlRel g lo v w m0 (k + 1) m c G wr' :=
  ⟨h.rel, h.own.next (fun _ h _ => h) (fun k _ hz => hb.block k hz) (fun k _ hz => hb.block k hz), h.bel.trans (hb.mono hl), h.le, h.yes, fun e => ⟨(h.no e).1, fun j hj => by
    rcases Nat.lt_or_ge j k with h1 | h1
    · exact (h.no e).2 j h1
    · obtain rfl : j = k := by omega
      exact hn⟩⟩

/-- the graph behind a round that has made no selection -/
theorem sl_max {g G : List Ce} {lo m0 k m : Nat} {v : Value} {w wr : World} (h : SlRel g lo v w m0 k m false G wr) (hk : G.length ≤ k) : SelMax G := by
  intro i q he
  exact (h.no rfl).2 i (Nat.lt_of_lt_of_le he.lt hk) q he
theorem SlRel.make {g G : List Ce} {lo m0 k m b n cap q : Nat} {w wr w1 : World} {c : Bool} (h : SlRel g lo (.slice (some ⟨b, 0, none⟩) n cap) w m0 k m c G wr) (hn : n = G.length) (hb : Below wr.heap.size wr w1) (hl : lo ≤ wr.heap.size) (he : Enabled G k q) (hlo : lo ≤ b) :
    SlRel g lo (.slice (some ⟨b, 0, none⟩) n cap) w m0 (k + 1) (m + 1) true (selAt G k q) (st3 (w1.alloc (.cells #[.int .i64 (partG G (opAt G k) q : Int)] 3)) b k 11 0 (.slice (some ⟨w1.heap.size, 0, none⟩) 1 1)) := by
  have hs1 := hb.size
  have ho1 : OwnC w1 lo (fun b => lo ≤ b) G (.slice (some ⟨b, 0, none⟩) n cap) := h.own.next (fun _ h _ => h) (fun k _ hz => hb.block k hz) (fun k _ hz => hb.block k hz)
  refine ⟨h.rel.step he, ho1.setInd hn (by omega) k _ he.lt, st3_below ((h.bel.trans (hb.mono hl)).alloc (by omega) _) hlo, by have := h.le; omega, fun _ => by have := h.le; omega, fun e => Bool.noConfusion e⟩

set_option maxRecDepth 100000 in
set_option maxHeartbeats 12800000 in
theorem l5Select_calls (g : List Ce) (v : Value) (w : World) (hk : CIn w g v) (hg : graphB g 6 = true) :
    Calls Tryz.prog 73 #[v] w (NewGN (selRes g) w) := by
  have HK : Hid (CIn w g v) := hk
  have HG := mkHid hg
  have h400 : g.length ≤ 400 := graphB_len hg
  clear hk hg
  go_enter Tryz.func73, Tryz.ntmps73
  go_wp2_with fail
  refine (l3Copy_calls g _ _ HK.out ⟨6, HG.out⟩).mono ?_
  rintro e w1 ⟨gv, rfl, ho, hb1⟩
  obtain ⟨adg, capg, rfl⟩ := ho.form
  have HZ1 := mkHid hb1.size
  have HST : Hid (SelR g g 0 ∧ OwnC w1 w.heap.size (fun b => w.heap.size ≤ b) g (.slice adg g.length capg) ∧ Below w.heap.size w w1) := ⟨.zero, ho, hb1⟩
  clear ho hb1
  go_wp2_with fail
  go_loopw [5, 6] (fun z c wr => ∃ (m : Nat) (b : Bool) (G : List Ce), z = .int .i64 m ∧ c = .bool b ∧ m ≤ g.length ∧ SelR g G m ∧ OwnC wr w.heap.size (fun b => w.heap.size ≤ b) G (.slice adg g.length capg) ∧ Below w.heap.size w wr ∧ (b = false → SelMax G)) (fun z c _ => 2 * (g.length - (intOf z).toNat) + (match c with | .bool true => 1 | _ => 0))
  case atStart => exact ⟨0, true, g, rfl, rfl, Nat.zero_le _, HST.out.1, HST.out.2.1, HST.out.2.2, fun e => Bool.noConfusion e⟩
  case round =>
    obtain ⟨m0, b, G0, rfl, rfl, hm0, hrel, hown, hbel, hmax⟩ := hrel
    cases b with
    | false =>
      have HV := mkHid (selRes_eq HG.out hrel (hmax rfl))
      have HO := mkHid hown
      have HB : Hid (Below w.heap.size w wr) := hbel
      clear hrel hown hbel hmax
      go_wp2_with fail
      go_ret2
      rw [HV.out]
      exact ⟨_, rfl, HO.out, HB.out⟩
    | true =>
      have HL0 : Hid (G0.length = g.length) := (selR_inv HG.out hrel).len
      have HS0 : Hid (SlRel g w.heap.size (.slice adg g.length capg) w m0 0 m0 false G0 wr) := ⟨hrel, hown, hbel, Nat.le_refl _, fun h => Bool.noConfusion h, fun _ => ⟨rfl, fun j hj => absurd hj (by omega)⟩⟩
      clear hrel hown hbel hmax
      go_wp2_with fail
      go_loopw [5, 6, 7] (fun z c i wr => ∃ (k m : Nat) (b : Bool) (G : List Ce), i = .int .i64 k ∧ k ≤ g.length ∧ z = .int .i64 m ∧ c = .bool b ∧ SlRel g w.heap.size (.slice adg g.length capg) w m0 k m b G wr) (fun _ _ i _ => g.length - (intOf i).toNat)
      case atStart => exact ⟨0, m0, false, G0, rfl, Nat.zero_le _, rfl, rfl, HS0.out⟩
      case round =>
        obtain ⟨k, m, b, G, rfl, hk, rfl, rfl, hr⟩ := hrel
        have HR := mkHid hr
        have hinv := selR_inv HG.out hr.rel
        have HOK := mkHid hinv.ok
        have hGL := hinv.len
        have hml : m ≤ g.length := by have := hinv.cnt; have : g.countP selB ≤ g.length := List.countP_le_length; omega
        have HLW : Hid (w.heap.size ≤ wr.heap.size) := hr.bel.size
        clear hr hinv
        by_cases hlt : k < g.length
        · have hltG : k < G.length := by omega
          obtain ⟨b5, rfl, -, hlb, hbz⟩ := HR.out.own.blkW (by omega)
          have HLB := mkHid hlb
          have hC := (HR.out.own.own fun k h _ => h).inn
          have HC := mkHid hC
          obtain ⟨bl, off, r, e, c0, c1, c2, -, -, hkk⟩ := hC.at k hltG
          cases e
          simp only [Nat.zero_add] at c0 c1 c2
          have HGL := mkHid hGL
          by_cases hsel : G[k].op = 6 ∨ G[k].op = 7
          · have hk1 := sel_kids HOK.out hltG hsel
            obtain ⟨hke, hkl⟩ := kidAt_get HOK.out k hltG 0 (by omega)
            obtain ⟨adk, capk, rfl, hkc, hkm, -⟩ := id hkk
            obtain ⟨bk, ok, rfl, d0⟩ := hkk.at 0 (by omega)
            rw [hke, Nat.add_zero] at d0
            have hk0I : (0 : Int) < (G[k].kids.length : Int) := by omega
            obtain ⟨x, hx⟩ : ∃ x, x = kidAt G k 0 := ⟨_, rfl⟩
            have HX := mkHid hx
            rw [← hx] at d0 hkl
            clear hC hlb hbz hx hke hk1 hGL
            rcases hsel with hop | hop
            · have t1 : (G[k].op != 6) = false := by rw [hop]; rfl
              have HOP := mkHid hop
              have HKC := mkHid c0
              clear hop hkk hkc hkm
              go_wp2_with fail
              refine (l3Follow_calls G x _ _ HC.out ⟨6, HOK.out⟩ hkl).mono ?_
              rintro e w2 ⟨rfl, hb2⟩
              have HB2 := mkHid hb2
              rw [follow_enough HOK.out x hkl]
              cases hf : followN G G.length x with
              | none =>
                have HN : Hid (∀ q, ¬ Enabled G k q) := not_en_none (by rw [← HX.out]; exact hf)
                have e1 : folI none = -1 := rfl
                rw [e1]
                clear hf e1 hb2
                go_wp2_with fail
                go_roundw
                case rel => exact ⟨k + 1, m, b, G, by go_num, by omega, rfl, rfl, HR.out.skip HB2.out HLW.out HN.out⟩
                case measure => simp [intOf]; omega
              | some q =>
                have HF : Hid (followN G G.length (kidAt G k 0) = some q) := by rw [← HX.out]; exact hf
                have hql := (followN_lt HOK.out _ _ _ hkl hf).1
                have e1 : folI (some q) = (q : Int) := rfl
                rw [e1]
                have hqn : ¬ ((q : Int) < 0) := by omega
                have hqI : (q : Int) < (g.length : Int) := by have := HGL.out; omega
                obtain ⟨bl, off, r3, e, q0, q1, q2, -, -, hkq⟩ := (HC.out.next hb2).at q hql
                cases e
                simp only [Nat.zero_add] at q0 q1 q2
                have k0 := (hb2.cell (p := ⟨b5, k * 3, none⟩) (cell_lt HKC.out)).trans HKC.out
                by_cases h5 : G[q].op = 5
                · have t5 : (G[q].op != 5) = false := by rw [h5]; rfl
                  have h2q := pair_kids HOK.out hql h5
                  obtain ⟨adq, capq, rfl, -, -, -⟩ := id hkq
                  obtain ⟨bkq, okq, rfl, p0⟩ := hkq.at 0 (by omega)
                  obtain ⟨hke0, -⟩ := kidAt_get HOK.out q hql 0 (by omega)
                  rw [hke0, Nat.add_zero] at p0
                  have t7 : (G[k].op == 7) = false := by rw [HOP.out]; rfl
                  have hq0I : (0 : Int) < (G[q].kids.length : Int) := by omega
                  have hq1I : (1 : Int) < (G[q].kids.length : Int) := by omega
                  have HPT : Hid (partG G (opAt G k) q = kidAt G q 0) := by unfold Hid partG; rw [opAt_at k hltG, HOP.out]; rfl
                  obtain ⟨pp, hpp⟩ : ∃ pp, pp = kidAt G q 0 := ⟨_, rfl⟩
                  rw [← hpp] at p0 HPT
                  have HEN : Hid (Enabled G k q) := ⟨hltG, by unfold isSel; rw [opAt_at k hltG, HOP.out]; omega, HF.out, by rw [opAt_at q hql]; exact h5⟩
                  have HMK := mkHid (HR.out.make HGL.out.symm HB2.out HLW.out HEN.out HLB.out)
                  rw [HPT.out] at HMK
                  obtain ⟨ys, hys⟩ := (HR.out.own.next (S' := fun b => w.heap.size ≤ b) (fun _ h _ => h) (fun k _ hz => hb2.block k hz) (fun k _ hz => hb2.block k hz)).row
                  rw [HGL.out] at hys
                  have hys2 := World.ownsRow.alloc hys (.cells #[.int .i64 (pp : Int)] 3)
                  obtain ⟨z0, y0⟩ := own_cellW hys2 (k * 3) (by omega)
                  obtain ⟨z1, y1⟩ := own_cellW hys2 (k * 3 + 1) (by omega)
                  obtain ⟨z2, y2⟩ := own_cellW hys2 (k * 3 + 2) (by omega)
                  have f0 := hys2.frozenAt (k * 3)
                  have f1 := hys2.frozenAt (k * 3 + 1)
                  have f2 := hys2.frozenAt (k * 3 + 2)
                  clear hf e1 hb2 hkq h5 h2q hpp hys hys2 hke0
                  go_wp2_with fail
                  go_roundw
                  case rel => exact ⟨k + 1, m + 1, true, selAt G k q, by go_num, by omega, by go_num, rfl, HMK.out⟩
                  case measure => simp [intOf]; omega
                · have t5 : (G[q].op != 5) = true := by simpa using h5
                  have HN : Hid (∀ q, ¬ Enabled G k q) := not_en_pair HF.out (by rw [opAt_at q hql]; exact h5)
                  clear hf e1 hb2 hkq h5
                  go_wp2_with fail
                  go_roundw
                  case rel => exact ⟨k + 1, m, b, G, by go_num, by omega, rfl, rfl, HR.out.skip HB2.out HLW.out HN.out⟩
                  case measure => simp [intOf]; omega
            · have t1 : (G[k].op != 6) = true := by rw [hop]; rfl
              have t2 : (G[k].op != 7) = false := by rw [hop]; rfl
              have HOP := mkHid hop
              have HKC := mkHid c0
              clear hop hkk hkc hkm
              go_wp2_with fail
              refine (l3Follow_calls G x _ _ HC.out ⟨6, HOK.out⟩ hkl).mono ?_
              rintro e w2 ⟨rfl, hb2⟩
              have HB2 := mkHid hb2
              rw [follow_enough HOK.out x hkl]
              cases hf : followN G G.length x with
              | none =>
                have HN : Hid (∀ q, ¬ Enabled G k q) := not_en_none (by rw [← HX.out]; exact hf)
                have e1 : folI none = -1 := rfl
                rw [e1]
                clear hf e1 hb2
                go_wp2_with fail
                go_roundw
                case rel => exact ⟨k + 1, m, b, G, by go_num, by omega, rfl, rfl, HR.out.skip HB2.out HLW.out HN.out⟩
                case measure => simp [intOf]; omega
              | some q =>
                have HF : Hid (followN G G.length (kidAt G k 0) = some q) := by rw [← HX.out]; exact hf
                have hql := (followN_lt HOK.out _ _ _ hkl hf).1
                have e1 : folI (some q) = (q : Int) := rfl
                rw [e1]
                have hqn : ¬ ((q : Int) < 0) := by omega
                have hqI : (q : Int) < (g.length : Int) := by have := HGL.out; omega
                obtain ⟨bl, off, r3, e, q0, q1, q2, -, -, hkq⟩ := (HC.out.next hb2).at q hql
                cases e
                simp only [Nat.zero_add] at q0 q1 q2
                have k0 := (hb2.cell (p := ⟨b5, k * 3, none⟩) (cell_lt HKC.out)).trans HKC.out
                by_cases h5 : G[q].op = 5
                · have t5 : (G[q].op != 5) = false := by rw [h5]; rfl
                  have h2q := pair_kids HOK.out hql h5
                  obtain ⟨adq, capq, rfl, -, -, -⟩ := id hkq
                  obtain ⟨bkq, okq, rfl, p0⟩ := hkq.at 0 (by omega)
                  obtain ⟨hke0, -⟩ := kidAt_get HOK.out q hql 0 (by omega)
                  rw [hke0, Nat.add_zero] at p0
                  obtain ⟨bk1, ok1, e9, p1⟩ := hkq.at 1 (by omega)
                  cases e9
                  obtain ⟨hke1, -⟩ := kidAt_get HOK.out q hql 1 (by omega)
                  rw [hke1] at p1
                  have t7 : (G[k].op == 7) = true := by rw [HOP.out]; rfl
                  have hq0I : (0 : Int) < (G[q].kids.length : Int) := by omega
                  have hq1I : (1 : Int) < (G[q].kids.length : Int) := by omega
                  have HPT : Hid (partG G (opAt G k) q = kidAt G q 1) := by unfold Hid partG; rw [opAt_at k hltG, HOP.out]; rfl
                  obtain ⟨pp, hpp⟩ : ∃ pp, pp = kidAt G q 1 := ⟨_, rfl⟩
                  rw [← hpp] at p1 HPT
                  have HEN : Hid (Enabled G k q) := ⟨hltG, by unfold isSel; rw [opAt_at k hltG, HOP.out]; omega, HF.out, by rw [opAt_at q hql]; exact h5⟩
                  have HMK := mkHid (HR.out.make HGL.out.symm HB2.out HLW.out HEN.out HLB.out)
                  rw [HPT.out] at HMK
                  obtain ⟨ys, hys⟩ := (HR.out.own.next (S' := fun b => w.heap.size ≤ b) (fun _ h _ => h) (fun k _ hz => hb2.block k hz) (fun k _ hz => hb2.block k hz)).row
                  rw [HGL.out] at hys
                  have hys2 := World.ownsRow.alloc hys (.cells #[.int .i64 (pp : Int)] 3)
                  obtain ⟨z0, y0⟩ := own_cellW hys2 (k * 3) (by omega)
                  obtain ⟨z1, y1⟩ := own_cellW hys2 (k * 3 + 1) (by omega)
                  obtain ⟨z2, y2⟩ := own_cellW hys2 (k * 3 + 2) (by omega)
                  have f0 := hys2.frozenAt (k * 3)
                  have f1 := hys2.frozenAt (k * 3 + 1)
                  have f2 := hys2.frozenAt (k * 3 + 2)
                  clear hf e1 hb2 hkq h5 h2q hpp hys hys2 hke0 hke1
                  go_wp2_with fail
                  go_roundw
                  case rel => exact ⟨k + 1, m + 1, true, selAt G k q, by go_num, by omega, by go_num, rfl, HMK.out⟩
                  case measure => simp [intOf]; omega
                · have t5 : (G[q].op != 5) = true := by simpa using h5
                  have HN : Hid (∀ q, ¬ Enabled G k q) := not_en_pair HF.out (by rw [opAt_at q hql]; exact h5)
                  clear hf e1 hb2 hkq h5
                  go_wp2_with fail
                  go_roundw
                  case rel => exact ⟨k + 1, m, b, G, by go_num, by omega, rfl, rfl, HR.out.skip HB2.out HLW.out HN.out⟩
                  case measure => simp [intOf]; omega
          · have t1 : (G[k].op != 6) = true := by simpa using (not_or.1 hsel).1
            have t2 : (G[k].op != 7) = true := by simpa using (not_or.1 hsel).2
            have HN : Hid (∀ q, ¬ Enabled G k q) := not_en_op (by unfold isSel; rw [opAt_at k hltG]; exact hsel)
            clear hC hlb hbz hkk hsel hGL
            go_wp2_with fail
            go_roundw
            case rel => exact ⟨k + 1, m, b, G, by go_num, by omega, rfl, rfl, HR.out.skip (Below.refl _ _) HLW.out HN.out⟩
            case measure => simp [intOf]; omega
        · have hke : k = g.length := by omega
          have HF : Hid (b = false → SelMax G) := fun e => by subst e; exact sl_max HR.out (by omega)
          have HM : Hid (2 * (g.length - m) + (if b = true then 1 else 0) < 2 * (g.length - m0) + 1) := by
            unfold Hid
            have h1 := HR.out.yes
            have h2 := HR.out.no
            have h3 := HR.out.le
            cases b with
            | false => rw [(h2 rfl).1]; simp
            | true =>
              have h4 := h1 rfl
              rw [if_pos rfl]
              have h5 : g.length - m < g.length - m0 := Nat.sub_lt_sub_left (Nat.lt_of_lt_of_le h4 hml) h4
              exact Nat.succ_lt_succ (Nat.mul_lt_mul_of_pos_left h5 (by decide))
          clear hke
          go_wp2_with fail
          go_roundw
          case rel => exact ⟨m, b, G, rfl, rfl, hml, HR.out.rel, HR.out.own, HR.out.bel, HF.out⟩
          case measure => have := HM.out; cases b <;> simp [intOf] at this ⊢ <;> omega

end Go.Proofs.YtiipcgnkfhjpeaaGreatDoor
/-
  THE MODEL's TidyGraph.
-/
namespace Go.Proofs.YtiipcgnkfhjpeaaGreatDoor
set_option linter.unusedVariables false
set_option linter.unusedSimpArgs false
open Go.RowKit

end Go.Proofs.YtiipcgnkfhjpeaaGreatDoor
/-
  THE MODEL's l4Spine: the function of nested applications of a graph, and the cells of these.
-/
namespace Go.Proofs.YtiipcgnkfhjpeaaGreatDoor
set_option linter.unusedVariables false
set_option linter.unusedSimpArgs false
open Go.RowKit

def spI (o : Option (Nat × List Nat)) : Int := match o with | some x => (x.1 : Int) | none => -1
/-- what l4Spine answers; of none, the cells are whatever -/
def SpineSaid (o : Option (Nat × List Nat)) (w : World) (e : Ending) (w' : World) : Prop :=
  ∃ (xs : List Nat) (v : Value), (∀ x, o = some x → xs = x.2) ∧ e = .returned (.tuple #[.int .i64 (spI o), v]) ∧ IntRow w' w.heap.size (plI xs) v ∧ Below w.heap.size w w'
/-- what SpineOf answers -/
def SpineOut (o : Option (Nat × List Nat)) (w : World) (e : Ending) (w' : World) : Prop :=
  ∃ v, e = .returned (.tuple #[.int .i64 (spF o), v, .bool o.isSome]) ∧ IntRow w' w.heap.size (plI (spL o)) v ∧ Below w.heap.size w w'
theorem said_none {g : List Ce} {a : Nat} {w w' : World} {ws : List Nat} {v : Value} (h : spine g a = none) (hr : IntRow w' w.heap.size (plI ws) v) (hb : Below w.heap.size w w') : SpineSaid (spine g a) w (.returned (.tuple #[.int .i64 (-1), v])) w' := by
  rw [h]; exact ⟨ws, v, (fun _ h => by cases h), rfl, hr, hb⟩
theorem said_some {g : List Ce} {a f : Nat} {w w' : World} {ws : List Nat} {v : Value} (h : spine g a = some (f, ws)) (hr : IntRow w' w.heap.size (plI ws) v) (hb : Below w.heap.size w w') : SpineSaid (spine g a) w (.returned (.tuple #[.int .i64 (f : Int), v])) w' := by
  rw [h]; exact ⟨ws, v, (fun _ h => by cases h; rfl), rfl, hr, hb⟩

set_option maxRecDepth 100000 in
set_option maxHeartbeats 1600000 in
theorem l4Spine_calls (g : List Ce) (a : Nat) (v : Value) (w : World) (hk : CIn w g v) (hg : ∃ defs, graphB g defs = true) (ha : a < g.length) :
    Calls Tryz.prog 52 #[v, .int .i64 (a : Int)] w (SpineSaid (spine g a) w) := by
  have HK : Hid (CIn w g v) := hk
  obtain ⟨ad, cap, rfl, hl, hm, -⟩ := hk
  obtain ⟨defs, hg⟩ := hg
  have HG : Hid (graphB g defs = true) := hg
  have h400 : g.length ≤ 400 := graphB_len hg
  have H0 : Hid (Stk (w.alloc (.cells #[] 3)) w.heap.size [] (.slice (some ⟨w.heap.size, 0, none⟩) 0 0)) := ⟨rfl, Or.inr ⟨_, 0, _, rfl, Nat.le_refl _, Deep.blk_alloc_new _ _, Nat.le_refl _, by simp [maxLen], rfl, rfl⟩⟩
  unfold maxLen at hm
  clear hg
  go_enter Tryz.func52, Tryz.ntmps52
  go_wp2_with fail
  refine (l3Follow_calls g a _ _ (HK.out.next (box_below _ _)) ⟨defs, HG.out⟩ ha).mono ?_
  rintro e w1 ⟨rfl, hb1⟩
  rw [follow_enough HG.out a ha]
  have HB1 : Hid (Below w.heap.size w w1) := (box_below _ _).trans (hb1.mono (by rw [Deep.nblk_alloc]; omega))
  have HS1 : Hid (Stk w1 w.heap.size [] (.slice (some ⟨w.heap.size, 0, none⟩) 0 0)) := H0.out.keep fun k _ hk => hb1.block k hk
  clear hb1
  go_wp2_with fail
  go_loopg [6, 7] (g.length + 3) (fun k cs at' wr => ∃ (ws : List Nat) (b : Nat), Stk wr w.heap.size ws cs ∧ SpRel g a ws b ∧ at' = .int .i64 (folI (followN g g.length b)) ∧ g.length + 2 - ws.length < k ∧ Below w.heap.size w wr)
  case atStart => exact ⟨[], a, HS1.out, SpRel.start ha, rfl, by simp, HB1.out⟩
  case round =>
    obtain ⟨ws, b, hst, hsp, rfl, hms, hb⟩ := hrel
    have HS : Hid (Stk wr w.heap.size ws _) := hst
    have HR : Hid (SpRel g a ws b) := hsp
    have HB : Hid (Below w.heap.size w wr) := hb
    have hwl := hsp.len
    obtain ⟨adc, capc, rfl⟩ := hst.len
    clear hst hsp
    cases hf : followN g g.length b with
    | none =>
      have HV : Hid (spine g a = none) := by
        by_cases hl2 : ws.length ≤ g.length
        · exact HR.out.none hl2 hf
        · exact HR.out.out (by omega)
      have e1 : folI none = -1 := rfl
      rw [e1]
      clear hf hb
      by_cases hgt : g.length < ws.length
      · go_wp2_with fail
        go_ret2
        exact said_none HV.out (ws := []) (no_ints _ _ _ _ (by simp [maxLen])) (HB.out.alloc HB.out.size _)
      · go_wp2_with fail
        go_ret2
        exact said_none HV.out HS.out.row HB.out
    | some f =>
      have hfl := followN_lt HG.out _ _ _ HR.out.lt hf
      have hff : f < g.length := hfl.1
      have HF : Hid (followN g g.length b = some f) := hf
      have e1 : folI (some f) = (f : Int) := rfl
      rw [e1]
      obtain ⟨bl, off, r, rfl, c0w, c1w, c2w, -, -, hkk⟩ := HK.out.at f hff
      have hbl : bl < w.heap.size := cell_lt c0w
      have c0 := (hb.cell (p := ⟨bl, off + f * 3, none⟩) hbl).trans c0w
      have c2 := (hb.cell (p := ⟨bl, off + f * 3 + 2, none⟩) hbl).trans c2w
      clear hf hfl c0w c1w c2w
      by_cases ho : g[f].op = 4
      · have t1 : (g[f].op == 4) = true := by simp [ho]
        by_cases hgt : g.length < ws.length
        · have HV : Hid (spine g a = none) := HR.out.out hgt
          clear ho hb hkk
          go_wp2_with fail
          go_ret2
          exact said_none HV.out (ws := []) (no_ints _ _ _ _ (by simp [maxLen])) (HB.out.alloc HB.out.size _)
        · have hwl2 : ws.length ≤ g.length := by omega
          have h4 : opAt g f = 4 := by rw [opAt_at f hff]; exact ho
          have HR2 : Hid (SpRel g a (ws ++ [f]) (kidAt g f 0)) := HR.out.next HG.out hwl2 HF.out h4
          have hkl : 0 < g[f].kids.length := by
            have h1 := kids_count HG.out f hff
            rw [ho] at h1
            have e : cArity 4 = 2 := by decide
            omega
          obtain ⟨hk0, hk0l⟩ := kidAt_get HG.out f hff 0 hkl
          obtain ⟨ad2, cap2, rfl, hl2, hm2, -⟩ := id hkk
          obtain ⟨bl2, off2, rfl, d0w⟩ := hkk.at 0 hkl
          have d0 := (hb.cell (p := ⟨bl2, off2 + 0, none⟩) (cell_lt d0w)).trans d0w
          rw [hk0, Nat.add_zero] at d0
          have HKL : Hid (kidAt g f 0 < g.length) := hk0l
          have HC : Hid (wr.cell? ⟨bl, off + f * 3 + 2, none⟩ = some (.slice (some ⟨bl2, off2, none⟩) g[f].kids.length cap2)) := c2
          have HD : Hid (wr.cell? ⟨bl2, off2, none⟩ = some (.int .i64 (kidAt g f 0 : Int))) := d0
          have hbl2 : bl2 < w.heap.size := by have := cell_lt d0w; simpa using this
          have HS3 : Hid (Stk (wr.alloc (.cells #[.int .i64 (f : Int)] 3)) w.heap.size ws (.slice adc ws.length capc)) := HS.out.alloc _
          have HK3 : Hid (IIn (wr.alloc (.cells #[.int .i64 (f : Int)] 3)) [(f : Int)] (.slice (some ⟨wr.heap.size, 0, none⟩) 1 1)) := one_in wr f
          have HLO : Hid (w.heap.size ≤ (wr.alloc (.cells #[.int .i64 (f : Int)] 3)).heap.size) := by rw [Hid, Deep.nblk_alloc]; have := HB.out.size; omega
          have HOB : Hid (∀ j, (Value.slice adc ws.length capc).ownBlock = some j → w.heap.size ≤ j) := fun j hj => own_lo HS.out hj.symm
          have HZ : Hid (w.heap.size ≤ wr.heap.size) := HB.out.size
          clear ho hb hkk hk0 hk0l c2 d0 d0w hl2 hm2 h4
          go_wp2_with (at_builtin; go_must (refine wpList_push rfl _ _ rfl _ w.heap.size ws [f] (.slice adc ws.length capc) (.slice (some ⟨wr.heap.size, 0, none⟩) 1 1) rfl HS3.out rfl HK3.out rfl HLO.out (by simp; omega) ?_); go_must (intro v' w5 hst5 hg5); go_must (have HS5 : Hid (Stk w5 w.heap.size (ws ++ [f]) v') := hst5); go_must (have HN5 : Hid (∀ j, j < w.heap.size → w5.heap[j]? = wr.heap[j]?) := fun j hj => (hg5.block j (by have := HLO.out; omega) (fun e => by have := HOB.out j e.symm; omega)).trans (Deep.blk_alloc_lt _ _ _ (by have := HZ.out; omega))); go_must (have HB5 : Hid (Below w.heap.size w w5) := by have hb3 : Below w.heap.size w (wr.alloc (.cells #[.int .i64 (f : Int)] 3)) := HB.out.alloc HB.out.size _; exact ⟨by rw [hg5.os]; exact hb3.os, by rw [hg5.tape]; exact hb3.tape, by rw [hg5.output]; exact hb3.output, Nat.le_trans hb3.size hg5.size, fun j hj => (hg5.block j (by have := hb3.size; omega) (fun e => by have := HOB.out j e.symm; omega)).trans (hb3.block j hj)⟩); go_must (have c2 := (World.cell?_of_block (a := ⟨bl, off + f * 3 + 2, none⟩) (HN5.out bl hbl)).trans HC.out); go_must (have d0 := (World.cell?_of_block (a := ⟨bl2, off2, none⟩) (HN5.out bl2 hbl2)).trans HD.out); clear hst5 hg5 c0)
          refine (l3Follow_calls g (kidAt g f 0) _ _ (HK.out.next HB5.out) ⟨defs, HG.out⟩ HKL.out).mono ?_
          rintro e w6 ⟨rfl, hb6⟩
          rw [follow_enough HG.out _ HKL.out]
          have HB6 : Hid (Below w.heap.size w w6) := HB5.out.trans (hb6.mono HB5.out.size)
          have HS6 : Hid (Stk w6 w.heap.size (ws ++ [f]) v') := HS5.out.keep fun k _ hk => hb6.block k hk
          clear hb6 c2 d0
          go_wp2_with fail
          go_roundg (g.length + 2 - (ws ++ [f]).length + 1)
          case measure => rw [List.length_append]; simp; omega
          case rel => exact ⟨ws ++ [f], kidAt g f 0, HS6.out, HR2.out, rfl, by omega, HB6.out⟩
      · have t1 : (g[f].op == 4) = false := by simp [ho]
        have h4 : ¬ opAt g f = 4 := by rw [opAt_at f hff]; exact ho
        clear hkk hb
        by_cases hgt : g.length < ws.length
        · have HV : Hid (spine g a = none) := HR.out.out hgt
          clear ho h4
          go_wp2_with fail
          go_ret2
          exact said_none HV.out (ws := []) (no_ints _ _ _ _ (by simp [maxLen])) (HB.out.alloc HB.out.size _)
        · have HV : Hid (spine g a = some (f, ws)) := HR.out.fin (by omega) HF.out h4
          clear ho h4
          go_wp2_with fail
          go_ret2
          exact said_some HV.out HS.out.row HB.out

theorem out_none {o : Option (Nat × List Nat)} {w w' : World} {ad : Option Addr} {cap : Nat} (h : o = none) (hc : cap ≤ maxLen) (hb : Below w.heap.size w w') : SpineOut o w (.returned (.tuple #[.int .i64 0, .slice ad 0 cap, .bool false])) w' := by
  subst h; exact ⟨_, rfl, no_ints _ _ _ _ hc, hb⟩
theorem out_some {o : Option (Nat × List Nat)} {w w' : World} {f : Nat} {ws : List Nat} {v : Value} (h : o = some (f, ws)) (hr : IntRow w' w.heap.size (plI ws) v) (hb : Below w.heap.size w w') : SpineOut o w (.returned (.tuple #[.int .i64 (f : Int), v, .bool true])) w' := by
  subst h; exact ⟨_, rfl, hr, hb⟩

end Go.Proofs.YtiipcgnkfhjpeaaGreatDoor
/-
  ONE TREE MORE IN A LIST THAT A CALL BUILDS: behind the tree's box and its cells.
-/
namespace Go.Proofs.YtiipcgnkfhjpeaaGreatDoor
set_option linter.unusedVariables false
set_option linter.unusedSimpArgs false
open Go.RowKit

end Go.Proofs.YtiipcgnkfhjpeaaGreatDoor
