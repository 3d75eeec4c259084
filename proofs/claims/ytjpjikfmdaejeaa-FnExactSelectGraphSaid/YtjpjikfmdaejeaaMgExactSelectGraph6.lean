/-
  THE MODEL's l5Select AND SelectGraph.
-/
import Derived.Test.YtjpjikfmdaejeaaMgExactSelectGraph4
import Derived.Test.YtjpjikfmdaejeaaMgExactSelectGraph2
import Derived.Test.YtjpjikfmdaejeaaMgExactSelectGraph5
import Derived.Test.YtjpjikfmdaejeaaMgExactSelectGraph1
import Derived.Maps.OwnSet
import Derived.Maps.GroupsBeside
import Derived.Test.YtjpjikfmdaejeaaMgExactSelectGraph3
import Derived.WalkSpells
import Derived.Test.YtjpjikfmdaejeaaProg
import Derived.Deep.DeepMust
import Derived.Deep.RegionLaw
import Derived.Deep.RegionLawGrows
namespace Go.Proofs.Ytjpjikfmdaejeaa
set_option linter.unusedVariables false
set_option linter.unusedSimpArgs false
open Go.RowKit

/-- a graph in new rows, and a number -/
def NewGN (r : List Ce × Nat) (w : World) (e : Ending) (w' : World) : Prop :=
  ∃ gv, e = .returned (.tuple #[gv, .int .i64 (r.2 : Int)]) ∧ OwnC w' w.heap.size (fun b => w.heap.size ≤ b) r.1 gv ∧ Below w.heap.size w w'
/-- what holds at a cell of a round -/
structure SlRel (g : List Ce) (lo : Nat) (v : Value) (w : World) (m0 k m : Nat) (c : Bool) (G : List Ce) (wr : World) : Prop where
  rel : SelR g G m
  own : OwnC wr lo (fun b => lo ≤ b) G v
  bel : Below lo w wr
  le : m0 ≤ m
  yes : c = true → m0 < m
  no : c = false → m = m0 ∧ ∀ j < k, ∀ q, ¬ Enabled G j q
theorem SlRel.skip {g G : List Ce} {lo m0 k m : Nat} {v : Value} {w wr wr' : World} {c : Bool} (h : SlRel g lo v w m0 k m c G wr) (hb : Below wr.heap.size wr wr') (hl : lo ≤ wr.heap.size) (hn : ∀ q, ¬ Enabled G k q) : SlRel g lo v w m0 (k + 1) m c G wr' :=
  ⟨h.rel, h.own.next (fun _ h _ => h) (fun k _ hz => hb.block k hz) (fun k _ hz => hb.block k hz), h.bel.trans (hb.mono hl), h.le, h.yes, fun e => ⟨(h.no e).1, fun j hj => by
    rcases Nat.lt_or_ge j k with h1 | h1
    · exact (h.no e).2 j h1
    · obtain rfl : j = k := by omega
      exact hn⟩⟩

/-- the graph behind a round that has made no selection -/
theorem sl_max {g G : List Ce} {lo m0 k m : Nat} {v : Value} {w wr : World} (h : SlRel g lo v w m0 k m false G wr) (hk : G.length ≤ k) : SelMax G := by
  intro i q he
  exact (h.no rfl).2 i (Nat.lt_of_lt_of_le he.lt hk) q he
theorem SlRel.make {g G : List Ce} {lo m0 k m b n cap q : Nat} {w wr w1 : World} {c : Bool} (h : SlRel g lo (.slice (some ⟨b, 0, none⟩) n cap) w m0 k m c G wr) (hn : n = G.length) (hb : Below wr.heap.size wr w1) (hl : lo ≤ wr.heap.size) (he : Enabled G k q) (hlo : lo ≤ b) :
    SlRel g lo (.slice (some ⟨b, 0, none⟩) n cap) w m0 (k + 1) (m + 1) true (selAt G k q) (st3 (w1.alloc (.cells #[.int .i64 (partG G (opAt G k) q : Int)] 3)) b k 11 0 (.slice (some ⟨w1.heap.size, 0, none⟩) 1 1)) := by
  have hs1 := hb.size
  have ho1 : OwnC w1 lo (fun b => lo ≤ b) G (.slice (some ⟨b, 0, none⟩) n cap) := h.own.next (fun _ h _ => h) (fun k _ hz => hb.block k hz) (fun k _ hz => hb.block k hz)
  refine ⟨h.rel.step he, ho1.setInd hn (by omega) k _ he.lt, st3_below ((h.bel.trans (hb.mono hl)).alloc (by omega) _) hlo, by have := h.le; omega, fun _ => by have := h.le; omega, fun e => Bool.noConfusion e⟩

set_option maxRecDepth 100000 in
set_option maxHeartbeats 12800000 in
theorem l5Select_calls (g : List Ce) (v : Value) (w : World) (hk : CIn w g v) (hg : graphB g 6 = true) :
    Calls Try.prog 38 #[v] w (NewGN (selRes g) w) := by
  have HK : Hid (CIn w g v) := hk
  have HG := mkHid hg
  have h400 : g.length ≤ 400 := graphB_len hg
  clear hk hg
  go_enter Try.func38, Try.ntmps38
  go_wp2_with fail
  refine (l3Copy_calls g _ _ HK.out ⟨6, HG.out⟩).mono ?_
  rintro e w1 ⟨gv, rfl, ho, hb1⟩
  obtain ⟨adg, capg, rfl⟩ := ho.form
  have HZ1 := mkHid hb1.size
  have HST : Hid (SelR g g 0 ∧ OwnC w1 w.heap.size (fun b => w.heap.size ≤ b) g (.slice adg g.length capg) ∧ Below w.heap.size w w1) := ⟨.zero, ho, hb1⟩
  clear ho hb1
  go_wp2_with fail
  go_loopw [5, 6] (fun z c wr => ∃ (m : Nat) (b : Bool) (G : List Ce), z = .int .i64 m ∧ c = .bool b ∧ m ≤ g.length ∧ SelR g G m ∧ OwnC wr w.heap.size (fun b => w.heap.size ≤ b) G (.slice adg g.length capg) ∧ Below w.heap.size w wr ∧ (b = false → SelMax G)) (fun z c _ => 2 * (g.length - (intOf z).toNat) + (match c with | .bool true => 1 | _ => 0))
  case atStart => exact ⟨0, true, g, rfl, rfl, Nat.zero_le _, HST.out.1, HST.out.2.1, HST.out.2.2, fun e => Bool.noConfusion e⟩
  case round =>
    obtain ⟨m0, b, G0, rfl, rfl, hm0, hrel, hown, hbel, hmax⟩ := hrel
    cases b with
    | false =>
      have HV := mkHid (selRes_eq HG.out hrel (hmax rfl))
      have HO := mkHid hown
      have HB : Hid (Below w.heap.size w wr) := hbel
      clear hrel hown hbel hmax
      go_wp2_with fail
      go_ret2
      rw [HV.out]
      exact ⟨_, rfl, HO.out, HB.out⟩
    | true =>
      have HL0 : Hid (G0.length = g.length) := (selR_inv HG.out hrel).len
      have HS0 : Hid (SlRel g w.heap.size (.slice adg g.length capg) w m0 0 m0 false G0 wr) := ⟨hrel, hown, hbel, Nat.le_refl _, fun h => Bool.noConfusion h, fun _ => ⟨rfl, fun j hj => absurd hj (by omega)⟩⟩
      clear hrel hown hbel hmax
      go_wp2_with fail
      go_loopw [5, 6, 7] (fun z c i wr => ∃ (k m : Nat) (b : Bool) (G : List Ce), i = .int .i64 k ∧ k ≤ g.length ∧ z = .int .i64 m ∧ c = .bool b ∧ SlRel g w.heap.size (.slice adg g.length capg) w m0 k m b G wr) (fun _ _ i _ => g.length - (intOf i).toNat)
      case atStart => exact ⟨0, m0, false, G0, rfl, Nat.zero_le _, rfl, rfl, HS0.out⟩
      case round =>
        obtain ⟨k, m, b, G, rfl, hk, rfl, rfl, hr⟩ := hrel
        have HR := mkHid hr
        have hinv := selR_inv HG.out hr.rel
        have HOK := mkHid hinv.ok
        have hGL := hinv.len
        have hml : m ≤ g.length := by have := hinv.cnt; have : g.countP selB ≤ g.length := List.countP_le_length; omega
        have HLW : Hid (w.heap.size ≤ wr.heap.size) := hr.bel.size
        clear hr hinv
        by_cases hlt : k < g.length
        · have hltG : k < G.length := by omega
          obtain ⟨b5, rfl, -, hlb, hbz⟩ := HR.out.own.blkW (by omega)
          have HLB := mkHid hlb
          have hC := (HR.out.own.own fun k h _ => h).inn
          have HC := mkHid hC
          obtain ⟨bl, off, r, e, c0, c1, c2, -, -, hkk⟩ := hC.at k hltG
          cases e
          simp only [Nat.zero_add] at c0 c1 c2
          have HGL := mkHid hGL
          by_cases hsel : G[k].op = 6 ∨ G[k].op = 7
          · have hk1 := sel_kids HOK.out hltG hsel
            obtain ⟨hke, hkl⟩ := kidAt_get HOK.out k hltG 0 (by omega)
            obtain ⟨adk, capk, rfl, hkc, hkm, -⟩ := id hkk
            obtain ⟨bk, ok, rfl, d0⟩ := hkk.at 0 (by omega)
            rw [hke, Nat.add_zero] at d0
            have hk0I : (0 : Int) < (G[k].kids.length : Int) := by omega
            obtain ⟨x, hx⟩ : ∃ x, x = kidAt G k 0 := ⟨_, rfl⟩
            have HX := mkHid hx
            rw [← hx] at d0 hkl
            clear hC hlb hbz hx hke hk1 hGL
            rcases hsel with hop | hop
            · have t1 : (G[k].op != 6) = false := by rw [hop]; rfl
              have HOP := mkHid hop
              have HKC := mkHid c0
              clear hop hkk hkc hkm
              go_wp2_with fail
              refine (l3Follow_calls G x _ _ HC.out ⟨6, HOK.out⟩ hkl).mono ?_
              rintro e w2 ⟨rfl, hb2⟩
              have HB2 := mkHid hb2
              rw [follow_enough HOK.out x hkl]
              cases hf : followN G G.length x with
              | none =>
                have HN : Hid (∀ q, ¬ Enabled G k q) := not_en_none (by rw [← HX.out]; exact hf)
                have e1 : folI none = -1 := rfl
                rw [e1]
                clear hf e1 hb2
                go_wp2_with fail
                go_roundw
                case rel => exact ⟨k + 1, m, b, G, by go_num, by omega, rfl, rfl, HR.out.skip HB2.out HLW.out HN.out⟩
                case measure => simp [intOf]; omega
              | some q =>
                have HF : Hid (followN G G.length (kidAt G k 0) = some q) := by rw [← HX.out]; exact hf
                have hql := (followN_lt HOK.out _ _ _ hkl hf).1
                have e1 : folI (some q) = (q : Int) := rfl
                rw [e1]
                have hqn : ¬ ((q : Int) < 0) := by omega
                have hqI : (q : Int) < (g.length : Int) := by have := HGL.out; omega
                obtain ⟨bl, off, r3, e, q0, q1, q2, -, -, hkq⟩ := (HC.out.next hb2).at q hql
                cases e
                simp only [Nat.zero_add] at q0 q1 q2
                have k0 := (hb2.cell (p := ⟨b5, k * 3, none⟩) (cell_lt HKC.out)).trans HKC.out
                by_cases h5 : G[q].op = 5
                · have t5 : (G[q].op != 5) = false := by rw [h5]; rfl
                  have h2q := pair_kids HOK.out hql h5
                  obtain ⟨adq, capq, rfl, -, -, -⟩ := id hkq
                  obtain ⟨bkq, okq, rfl, p0⟩ := hkq.at 0 (by omega)
                  obtain ⟨hke0, -⟩ := kidAt_get HOK.out q hql 0 (by omega)
                  rw [hke0, Nat.add_zero] at p0
                  have t7 : (G[k].op == 7) = false := by rw [HOP.out]; rfl
                  have hq0I : (0 : Int) < (G[q].kids.length : Int) := by omega
                  have hq1I : (1 : Int) < (G[q].kids.length : Int) := by omega
                  have HPT : Hid (partG G (opAt G k) q = kidAt G q 0) := by unfold Hid partG; rw [opAt_at k hltG, HOP.out]; rfl
                  obtain ⟨pp, hpp⟩ : ∃ pp, pp = kidAt G q 0 := ⟨_, rfl⟩
                  rw [← hpp] at p0 HPT
                  have HEN : Hid (Enabled G k q) := ⟨hltG, by unfold isSel; rw [opAt_at k hltG, HOP.out]; omega, HF.out, by rw [opAt_at q hql]; exact h5⟩
                  have HMK := mkHid (HR.out.make HGL.out.symm HB2.out HLW.out HEN.out HLB.out)
                  rw [HPT.out] at HMK
                  obtain ⟨ys, hys⟩ := (HR.out.own.next (S' := fun b => w.heap.size ≤ b) (fun _ h _ => h) (fun k _ hz => hb2.block k hz) (fun k _ hz => hb2.block k hz)).row
                  rw [HGL.out] at hys
                  have hys2 := World.ownsRow.alloc hys (.cells #[.int .i64 (pp : Int)] 3)
                  obtain ⟨z0, y0⟩ := own_cellW hys2 (k * 3) (by omega)
                  obtain ⟨z1, y1⟩ := own_cellW hys2 (k * 3 + 1) (by omega)
                  obtain ⟨z2, y2⟩ := own_cellW hys2 (k * 3 + 2) (by omega)
                  have f0 := hys2.frozenAt (k * 3)
                  have f1 := hys2.frozenAt (k * 3 + 1)
                  have f2 := hys2.frozenAt (k * 3 + 2)
                  clear hf e1 hb2 hkq h5 h2q hpp hys hys2 hke0
                  go_wp2_with fail
                  go_roundw
                  case rel => exact ⟨k + 1, m + 1, true, selAt G k q, by go_num, by omega, by go_num, rfl, HMK.out⟩
                  case measure => simp [intOf]; omega
                · have t5 : (G[q].op != 5) = true := by simpa using h5
                  have HN : Hid (∀ q, ¬ Enabled G k q) := not_en_pair HF.out (by rw [opAt_at q hql]; exact h5)
                  clear hf e1 hb2 hkq h5
                  go_wp2_with fail
                  go_roundw
                  case rel => exact ⟨k + 1, m, b, G, by go_num, by omega, rfl, rfl, HR.out.skip HB2.out HLW.out HN.out⟩
                  case measure => simp [intOf]; omega
            · have t1 : (G[k].op != 6) = true := by rw [hop]; rfl
              have t2 : (G[k].op != 7) = false := by rw [hop]; rfl
              have HOP := mkHid hop
              have HKC := mkHid c0
              clear hop hkk hkc hkm
              go_wp2_with fail
              refine (l3Follow_calls G x _ _ HC.out ⟨6, HOK.out⟩ hkl).mono ?_
              rintro e w2 ⟨rfl, hb2⟩
              have HB2 := mkHid hb2
              rw [follow_enough HOK.out x hkl]
              cases hf : followN G G.length x with
              | none =>
                have HN : Hid (∀ q, ¬ Enabled G k q) := not_en_none (by rw [← HX.out]; exact hf)
                have e1 : folI none = -1 := rfl
                rw [e1]
                clear hf e1 hb2
                go_wp2_with fail
                go_roundw
                case rel => exact ⟨k + 1, m, b, G, by go_num, by omega, rfl, rfl, HR.out.skip HB2.out HLW.out HN.out⟩
                case measure => simp [intOf]; omega
              | some q =>
                have HF : Hid (followN G G.length (kidAt G k 0) = some q) := by rw [← HX.out]; exact hf
                have hql := (followN_lt HOK.out _ _ _ hkl hf).1
                have e1 : folI (some q) = (q : Int) := rfl
                rw [e1]
                have hqn : ¬ ((q : Int) < 0) := by omega
                have hqI : (q : Int) < (g.length : Int) := by have := HGL.out; omega
                obtain ⟨bl, off, r3, e, q0, q1, q2, -, -, hkq⟩ := (HC.out.next hb2).at q hql
                cases e
                simp only [Nat.zero_add] at q0 q1 q2
                have k0 := (hb2.cell (p := ⟨b5, k * 3, none⟩) (cell_lt HKC.out)).trans HKC.out
                by_cases h5 : G[q].op = 5
                · have t5 : (G[q].op != 5) = false := by rw [h5]; rfl
                  have h2q := pair_kids HOK.out hql h5
                  obtain ⟨adq, capq, rfl, -, -, -⟩ := id hkq
                  obtain ⟨bkq, okq, rfl, p0⟩ := hkq.at 0 (by omega)
                  obtain ⟨hke0, -⟩ := kidAt_get HOK.out q hql 0 (by omega)
                  rw [hke0, Nat.add_zero] at p0
                  obtain ⟨bk1, ok1, e9, p1⟩ := hkq.at 1 (by omega)
                  cases e9
                  obtain ⟨hke1, -⟩ := kidAt_get HOK.out q hql 1 (by omega)
                  rw [hke1] at p1
                  have t7 : (G[k].op == 7) = true := by rw [HOP.out]; rfl
                  have hq0I : (0 : Int) < (G[q].kids.length : Int) := by omega
                  have hq1I : (1 : Int) < (G[q].kids.length : Int) := by omega
                  have HPT : Hid (partG G (opAt G k) q = kidAt G q 1) := by unfold Hid partG; rw [opAt_at k hltG, HOP.out]; rfl
                  obtain ⟨pp, hpp⟩ : ∃ pp, pp = kidAt G q 1 := ⟨_, rfl⟩
                  rw [← hpp] at p1 HPT
                  have HEN : Hid (Enabled G k q) := ⟨hltG, by unfold isSel; rw [opAt_at k hltG, HOP.out]; omega, HF.out, by rw [opAt_at q hql]; exact h5⟩
                  have HMK := mkHid (HR.out.make HGL.out.symm HB2.out HLW.out HEN.out HLB.out)
                  rw [HPT.out] at HMK
                  obtain ⟨ys, hys⟩ := (HR.out.own.next (S' := fun b => w.heap.size ≤ b) (fun _ h _ => h) (fun k _ hz => hb2.block k hz) (fun k _ hz => hb2.block k hz)).row
                  rw [HGL.out] at hys
                  have hys2 := World.ownsRow.alloc hys (.cells #[.int .i64 (pp : Int)] 3)
                  obtain ⟨z0, y0⟩ := own_cellW hys2 (k * 3) (by omega)
                  obtain ⟨z1, y1⟩ := own_cellW hys2 (k * 3 + 1) (by omega)
                  obtain ⟨z2, y2⟩ := own_cellW hys2 (k * 3 + 2) (by omega)
                  have f0 := hys2.frozenAt (k * 3)
                  have f1 := hys2.frozenAt (k * 3 + 1)
                  have f2 := hys2.frozenAt (k * 3 + 2)
                  clear hf e1 hb2 hkq h5 h2q hpp hys hys2 hke0 hke1
                  go_wp2_with fail
                  go_roundw
                  case rel => exact ⟨k + 1, m + 1, true, selAt G k q, by go_num, by omega, by go_num, rfl, HMK.out⟩
                  case measure => simp [intOf]; omega
                · have t5 : (G[q].op != 5) = true := by simpa using h5
                  have HN : Hid (∀ q, ¬ Enabled G k q) := not_en_pair HF.out (by rw [opAt_at q hql]; exact h5)
                  clear hf e1 hb2 hkq h5
                  go_wp2_with fail
                  go_roundw
                  case rel => exact ⟨k + 1, m, b, G, by go_num, by omega, rfl, rfl, HR.out.skip HB2.out HLW.out HN.out⟩
                  case measure => simp [intOf]; omega
          · have t1 : (G[k].op != 6) = true := by simpa using (not_or.1 hsel).1
            have t2 : (G[k].op != 7) = true := by simpa using (not_or.1 hsel).2
            have HN : Hid (∀ q, ¬ Enabled G k q) := not_en_op (by unfold isSel; rw [opAt_at k hltG]; exact hsel)
            clear hC hlb hbz hkk hsel hGL
            go_wp2_with fail
            go_roundw
            case rel => exact ⟨k + 1, m, b, G, by go_num, by omega, rfl, rfl, HR.out.skip (Below.refl _ _) HLW.out HN.out⟩
            case measure => simp [intOf]; omega
        · have hke : k = g.length := by omega
          have HF : Hid (b = false → SelMax G) := fun e => by subst e; exact sl_max HR.out (by omega)
          have HM : Hid (2 * (g.length - m) + (if b = true then 1 else 0) < 2 * (g.length - m0) + 1) := by
            unfold Hid
            have h1 := HR.out.yes
            have h2 := HR.out.no
            have h3 := HR.out.le
            cases b with
            | false => rw [(h2 rfl).1]; simp
            | true =>
              have h4 := h1 rfl
              rw [if_pos rfl]
              have h5 : g.length - m < g.length - m0 := Nat.sub_lt_sub_left (Nat.lt_of_lt_of_le h4 hml) h4
              exact Nat.succ_lt_succ (Nat.mul_lt_mul_of_pos_left h5 (by decide))
          clear hke
          go_wp2_with fail
          go_roundw
          case rel => exact ⟨m, b, G, rfl, rfl, hml, HR.out.rel, HR.out.own, HR.out.bel, HF.out⟩
          case measure => have := HM.out; cases b <;> simp [intOf] at this ⊢ <;> omega

set_option maxHeartbeats 800000 in
theorem specSelG_calls (g : List Ce) (v : Value) (w : World) (hk : CIn w g v) :
    Calls Try.prog 23 #[v] w fun e w' => ∃ gv, e = .returned (.tuple #[gv, .int .i64 ((selO g).2 : Int), .bool (graphB g 6)]) ∧ CIn w' (selO g).1 gv ∧ Below w.heap.size w w' := by
  have HK : Hid (CIn w g v) := hk
  clear hk
  go_enter Try.func23, Try.ntmps23
  go_wp2_with fail
  refine (specGraph_calls g 6 _ _ HK.out).mono ?_
  rintro e w1 ⟨rfl, hb1⟩
  have HB1 : Hid (Below w.heap.size w w1) := hb1
  clear hb1
  cases hg : graphB g 6 with
  | false =>
    have HV := mkHid (selO_no hg)
    have HT := mkHid hg
    clear hg
    go_wp2_with fail
    go_ret3
    rw [HV.out, HT.out]
    exact ⟨_, rfl, cin_nil _ _ 0 (by simp [maxLen]), HB1.out.alloc HB1.out.size _⟩
  | true =>
    have HT := mkHid hg
    have HV := mkHid (selO_yes hg)
    clear hg
    go_wp2_with fail
    refine (l5Select_calls g _ _ (HK.out.next HB1.out) HT.out).mono ?_
    rintro e w2 ⟨gv, rfl, ho, hb2⟩
    have HO := mkHid (ho.cin fun k h _ => h)
    have HB2 : Hid (Below w.heap.size w w2) := HB1.out.trans (hb2.mono HB1.out.size)
    clear ho hb2
    go_wp2_with fail
    go_ret3
    rw [HV.out, HT.out]
    exact ⟨_, rfl, HO.out, HB2.out⟩
end Go.Proofs.Ytjpjikfmdaejeaa
/-
  THE PROGRAM's isSelection, partOf AND redirect, precisely.
-/
namespace Go.Proofs.Ytjpjikfmdaejeaa
set_option linter.unusedVariables false
set_option linter.unusedSimpArgs false
open Go.RowKit

theorem isSel_calls (op n : Int) (adk : Option Addr) (nk ck : Nat) (ks : List Int) (w : World) :
    Calls Try.prog 58 #[.agg #[.int .i64 op, .int .i64 n, .slice adk nk ck]] w fun e w' => e = .returned (.bool (selB ⟨op, n, ks⟩)) ∧ Below w.heap.size w w' := by
  have HB : Hid (Below w.heap.size w (w.alloc (.cells #[.int .i64 op, .int .i64 n, .slice adk nk ck] 45))) := box_below _ _
  have HV : Hid (selB ⟨op, n, ks⟩ = (op == 6 || op == 7)) := rfl
  by_cases h6 : op = 6
  · have t6 : (op == 6) = true := by simp [h6]
    have HR : Hid (selB ⟨op, n, ks⟩ = true) := by rw [Hid, HV.out, t6]; rfl
    clear h6
    go_enter Try.func58, Try.ntmps58
    go_wp2_with fail
    go_ret
    exact ⟨ret_bool HR.out.symm, HB.out⟩
  · have t6 : (op == 6) = false := by simp [h6]
    by_cases h7 : op = 7
    · have t7 : (op == 7) = true := by simp [h7]
      have HR : Hid (selB ⟨op, n, ks⟩ = true) := by rw [Hid, HV.out, t6, t7]; rfl
      clear h6 h7
      go_enter Try.func58, Try.ntmps58
      go_wp2_with fail
      go_ret
      exact ⟨ret_bool HR.out.symm, HB.out⟩
    · have t7 : (op == 7) = false := by simp [h7]
      have HR : Hid (selB ⟨op, n, ks⟩ = false) := by rw [Hid, HV.out, t6, t7]; rfl
      clear h6 h7
      go_enter Try.func58, Try.ntmps58
      go_wp2_with fail
      go_ret
      exact ⟨ret_bool HR.out.symm, HB.out⟩
theorem partA_calls (op o n : Int) (xs : List Int) (k : Nat) (kv : Value) (w : World) (hk : IIn w xs kv) (h0 : 0 < xs.length) (he : xs[0] = (k : Int)) (ht : (op == 6) = true) :
    Calls Try.prog 57 #[.int .i64 op, .agg #[.int .i64 o, .int .i64 n, kv]] w fun e w' => e = .returned (.int .i64 (k : Int)) ∧ Below w.heap.size w w' := by
  obtain ⟨ad, cap, rfl, hl, hm, -⟩ := id hk
  obtain ⟨bk, ok, rfl, d0⟩ := hk.at 0 h0
  rw [he, Nat.add_zero] at d0
  have x2 := box_cell w #[.int .i64 o, .int .i64 n, .slice (some ⟨bk, ok, none⟩) xs.length cap] 45 2 _ rfl
  have dk := old_cell d0 (.cells #[.int .i64 o, .int .i64 n, .slice (some ⟨bk, ok, none⟩) xs.length cap] 45)
  have h0I : (0 : Int) < (xs.length : Int) := by omega
  have HB : Hid (Below w.heap.size w (w.alloc (.cells #[.int .i64 o, .int .i64 n, .slice (some ⟨bk, ok, none⟩) xs.length cap] 45))) := box_below _ _
  clear hk he d0
  go_enter Try.func57, Try.ntmps57
  go_wp2_with fail
  go_ret
  exact ⟨rfl, HB.out⟩
theorem partB_calls (op o n : Int) (xs : List Int) (k : Nat) (kv : Value) (w : World) (hk : IIn w xs kv) (h0 : 1 < xs.length) (he : xs[1] = (k : Int)) (ht : (op == 6) = false) :
    Calls Try.prog 57 #[.int .i64 op, .agg #[.int .i64 o, .int .i64 n, kv]] w fun e w' => e = .returned (.int .i64 (k : Int)) ∧ Below w.heap.size w w' := by
  obtain ⟨ad, cap, rfl, hl, hm, -⟩ := id hk
  obtain ⟨bk, ok, rfl, d0⟩ := hk.at 1 h0
  rw [he] at d0
  have x2 := box_cell w #[.int .i64 o, .int .i64 n, .slice (some ⟨bk, ok, none⟩) xs.length cap] 45 2 _ rfl
  have dk := old_cell d0 (.cells #[.int .i64 o, .int .i64 n, .slice (some ⟨bk, ok, none⟩) xs.length cap] 45)
  have h0I : (1 : Int) < (xs.length : Int) := by omega
  have HB : Hid (Below w.heap.size w (w.alloc (.cells #[.int .i64 o, .int .i64 n, .slice (some ⟨bk, ok, none⟩) xs.length cap] 45))) := box_below _ _
  clear hk he d0
  go_enter Try.func57, Try.ntmps57
  go_wp2_with fail
  go_ret
  exact ⟨rfl, HB.out⟩
/-- the part that a selection takes of a pair -/
theorem part_calls {G : List Ce} {defs : Int} (hg : graphB G defs = true) (i q : Nat) (hi : i < G.length) (hq : q < G.length) (hs : G[i].op = 6 ∨ G[i].op = 7) (h5 : G[q].op = 5) (kv : Value) (w : World) (hk : IIn w G[q].kids kv) :
    Calls Try.prog 57 #[.int .i64 G[i].op, .agg #[.int .i64 G[q].op, .int .i64 G[q].num, kv]] w fun e w' => e = .returned (.int .i64 (partG G (opAt G i) q : Int)) ∧ Below w.heap.size w w' := by
  have h2 := pair_kids hg hq h5
  rcases hs with h | h
  · have e : partG G (opAt G i) q = kidAt G q 0 := by unfold partG; rw [opAt_at i hi, h]; rfl
    rw [e]
    exact partA_calls _ _ _ _ _ _ _ hk (by omega) (kidAt_get hg q hq 0 (by omega)).1 (by rw [h]; rfl)
  · have e : partG G (opAt G i) q = kidAt G q 1 := by unfold partG; rw [opAt_at i hi, h]; rfl
    rw [e]
    exact partB_calls _ _ _ _ _ _ _ hk (by omega) (kidAt_get hg q hq 1 (by omega)).1 (by rw [h]; rfl)

set_option maxRecDepth 100000 in
set_option maxHeartbeats 1600000 in
theorem redirectE_calls (A b N cap at' k lo : Nat) (ys : List Value) (w : World) (hA : w.heap[A]? = some (.cells #[.slice (some ⟨b, 0, none⟩) N cap] 51)) (hys : w.ownsRow lo 45 3 (.slice (some ⟨b, 0, none⟩) N cap) N ys) (hat : at' < N) (hN : N ≤ 1048576) :
    Calls Try.prog 56 #[.pointer (some ⟨A, 0, none⟩), .int .i64 (at' : Int), .int .i64 (k : Int)] w fun e w' => e = .returned (.tuple #[]) ∧ st3 (w.alloc (.cells #[.int .i64 (k : Int)] 3)) b at' 11 0 (.slice (some ⟨w.heap.size, 0, none⟩) 1 1) = w' := by
  have a0 := cell_of_blk hA 0 _ rfl
  have a0' := old_cell a0 (.cells #[.int .i64 (k : Int)] 3)
  have hys2 := World.ownsRow.alloc hys (.cells #[.int .i64 (k : Int)] 3)
  obtain ⟨q0, y0⟩ := own_cellW hys2 (at' * 3) (by omega)
  obtain ⟨q1, y1⟩ := own_cellW hys2 (at' * 3 + 1) (by omega)
  obtain ⟨q2, y2⟩ := own_cellW hys2 (at' * 3 + 2) (by omega)
  have f0 := hys2.frozenAt (at' * 3)
  have f1 := hys2.frozenAt (at' * 3 + 1)
  have f2 := hys2.frozenAt (at' * 3 + 2)
  have hatI : (at' : Int) < (N : Int) := by omega
  clear hys hys2 hA
  go_enter Try.func56, Try.ntmps56
  go_wp2_with fail
  go_end0
  exact ⟨rfl, rfl⟩
end Go.Proofs.Ytjpjikfmdaejeaa
/-
  THE PROGRAM's selections: the cells that are selections.
-/
namespace Go.Proofs.Ytjpjikfmdaejeaa
set_option linter.unusedVariables false
set_option linter.unusedSimpArgs false
open Go.RowKit

def selL (g : List Ce) (k : Nat) : List Nat := (List.range k).filter fun i => selB (cellD g i)
theorem selL_yes {g : List Ce} {k : Nat} (h : selB (cellD g k) = true) : selL g (k + 1) = selL g k ++ [k] := by
  unfold selL; rw [List.range_succ, List.filter_append]; simp [h]
theorem selL_no {g : List Ce} {k : Nat} (h : selB (cellD g k) = false) : selL g (k + 1) = selL g k := by
  unfold selL; rw [List.range_succ, List.filter_append]; simp [h]
theorem selL_len (g : List Ce) (k : Nat) : (selL g k).length ≤ k := by
  unfold selL; have := List.length_filter_le (fun i => selB (cellD g i)) (List.range k); rw [List.length_range] at this; exact this
theorem selL_nodup (g : List Ce) (k : Nat) : (selL g k).Nodup := List.Nodup.sublist List.filter_sublist List.nodup_range
theorem selL_mem (g : List Ce) (i : Nat) : i ∈ selL g g.length ↔ isSel g i := by
  unfold selL
  rw [List.mem_filter, List.mem_range, isSel_B]
  exact ⟨fun h => h.2, fun h => ⟨isSel_lt ((isSel_B g i).2 h), h⟩⟩
theorem cellD_at {g : List Ce} {k : Nat} (h : k < g.length) : cellD g k = g[k] := getD_at _ _ _ h

set_option maxRecDepth 100000 in
set_option maxHeartbeats 1600000 in
theorem selections_calls (A : Nat) (g : List Ce) (gv : Value) (w : World) (hA : w.heap[A]? = some (.cells #[gv] 51)) (hC : CIn w g gv) (h400 : g.length ≤ 400) :
    Calls Try.prog 55 #[.pointer (some ⟨A, 0, none⟩)] w (NewStk (selL g g.length) w) := by
  have HC := mkHid hC
  obtain ⟨ad, cap, rfl, hl, hm, -⟩ := hC
  unfold maxLen at hm
  have a0 := cell_of_blk hA 0 _ rfl
  have HST : Hid (Stk w w.heap.size (selL g 0) (.slice none 0 0)) := World.ownsRow_nil _ _ _ _
  clear hA
  go_enter Try.func55, Try.ntmps55
  go_wp2_with fail
  go_loopw [3, 11] (fun pv z wr => ∃ k : Nat, k ≤ g.length ∧ z = .int .i64 k ∧ Stk wr w.heap.size (selL g k) pv ∧ Below w.heap.size w wr) (fun _ z _ => g.length - (intOf z).toNat)
  case atStart => exact ⟨0, Nat.zero_le _, rfl, HST.out, Below.refl _ _⟩
  case round =>
    obtain ⟨k, hk, rfl, hst, hb⟩ := hrel
    have HS := mkHid hst
    have HB : Hid (Below w.heap.size w wr) := hb
    have hsw := hb.size
    have hll := selL_len g k
    obtain ⟨n, hn⟩ : ∃ n, n = (selL g k).length := ⟨_, rfl⟩
    have HN := mkHid hn
    obtain ⟨adp, capp, rfl⟩ : ∃ ad cap, u3 = .slice ad n cap := by obtain ⟨x, y, e⟩ := hst.len; rw [← hn] at e; exact ⟨x, y, e⟩
    rw [← hn] at hll
    clear hst hn
    by_cases hlt : k < g.length
    · obtain ⟨bl, off, r2, rfl, c0, c1, c2, -, -, hkk⟩ := (HC.out.next hb).at k hlt
      obtain ⟨adk, capk, rfl, -, -, -⟩ := id hkk
      have HBX : Hid (Below wr.heap.size wr (wr.alloc (.cells #[.int .i64 g[k].op, .int .i64 g[k].num, .slice adk g[k].kids.length capk] 45))) := box_below _ _
      have HCD := mkHid (cellD_at hlt)
      clear hb hkk
      go_wp2_with fail
      refine (isSel_calls g[k].op g[k].num adk g[k].kids.length capk g[k].kids _).mono ?_
      rintro e w1 ⟨rfl, hb1⟩
      have HB0 : Hid (Below wr.heap.size wr w1) := HBX.out.trans (hb1.mono (by rw [Deep.nblk_alloc]; omega))
      have HB1 : Hid (Below w.heap.size w w1) := HB.out.trans (HB0.out.mono HB.out.size)
      have HS1 : Hid (Stk w1 w.heap.size (selL g k) (.slice adp n capp)) := HS.out.next HB0.out
      have hzw := HB1.out.size
      clear hb1 c0 c1 c2
      cases hsb : selB ⟨g[k].op, g[k].num, g[k].kids⟩ with
      | false =>
        have HV : Hid (selL g (k + 1) = selL g k) := selL_no (by rw [HCD.out]; exact hsb)
        clear hsb
        go_wp2_with fail
        go_roundw
        case rel => exact ⟨k + 1, by omega, by go_num, by rw [HV.out]; exact HS1.out, HB1.out⟩
        case measure => simp [intOf]; omega
      | true =>
        have HV : Hid (selL g (k + 1) = selL g k ++ [k]) := selL_yes (by rw [HCD.out]; exact hsb)
        have HS3 : Hid (Stk (w1.alloc (.cells #[.int .i64 (k : Int)] 3)) w.heap.size (selL g k) (.slice adp n capp)) := HS1.out.alloc _
        have HK3 : Hid (IIn (w1.alloc (.cells #[.int .i64 (k : Int)] 3)) [(k : Int)] (.slice (some ⟨w1.heap.size, 0, none⟩) 1 1)) := one_in w1 k
        have HLO : Hid (w.heap.size ≤ (w1.alloc (.cells #[.int .i64 (k : Int)] 3)).heap.size) := by rw [Hid, Deep.nblk_alloc]; omega
        clear hsb
        go_wp2_with (at_builtin; go_must (refine wpList_push rfl _ _ rfl _ w.heap.size (selL g k) [k] (.slice adp n capp) (.slice (some ⟨w1.heap.size, 0, none⟩) 1 1) rfl HS3.out rfl HK3.out rfl HLO.out (by rw [← HN.out]; simp; omega) ?_); go_must (intro v' w5 hst5 hg5); go_must (have HS5 := mkHid hst5); go_must (have HB5 : Hid (Below w.heap.size w w5) := push_below HS3.out (HB1.out.alloc hzw _) (Nat.le_refl _) hg5 (Nat.le_refl _)); clear hst5 hg5)
        go_roundw
        case rel => first | exact ⟨k + 1, by omega, by go_num, by rw [HV.out]; exact HS5.out, HB5.out⟩ | ((repeat apply Exists.intro); exact ⟨⟨k + 1, by omega, by go_num, by rw [HV.out]; exact HS5.out, HB5.out⟩, rfl⟩)
        case measure => simp [intOf]; omega
    · have hke : k = g.length := by omega
      have HV : Hid (Stk wr w.heap.size (selL g g.length) (.slice adp n capp)) := by
        have h := HS.out
        rw [hke] at h; exact h
      clear hb hke
      go_wp2_with fail
      go_ret
      exact ⟨_, rfl, HV.out, HB.out⟩
end Go.Proofs.Ytjpjikfmdaejeaa
/-
  A MAP FROM PLACES TO PLACES: the places of a list.
-/
namespace Go.Proofs.Ytjpjikfmdaejeaa
set_option linter.unusedVariables false
set_option linter.unusedSimpArgs false
open Go.RowKit Go.Maps

theorem keyedI : Keyed Try.prog 3 := int_keyed Try.underlying3
theorem zeroI (w : World) : (zeroValue 3).run Try.prog w = .ok (.int .i64 0) w := by kernel_rfl
theorem litI_wf (x : Nat) (h : x ≤ 1048576) : (Lit.int .i64 (x : Int)).wf = true := by
  simp only [Lit.wf, IntKind.min, IntKind.max, IntKind.signed, IntKind.bits, Bool.and_eq_true, decide_eq_true_eq, if_true]
  omega
theorem litI_ne {a b : Nat} (h : a ≠ b) : Lit.int .i64 (a : Int) ≠ Lit.int .i64 (b : Int) := by
  intro e
  simp only [Lit.int.injEq] at e
  omega
/-- block M is a map that holds the place of each cell of a list, and nothing else -/
def MapN (w : World) (M : Nat) (o : List Nat) : Prop :=
  ∃ (n : Nat) (D : DataW Unit), w.ownsMap Try.prog 3 (plainElem Try.prog 3) M n D ∧ n ≤ o.length ∧ ∀ x : Nat, x ≤ 1048576 → has D (.int .i64 (x : Int)) = memB o x ∧ (x ∈ o → D.atKey (.int .i64 (x : Int)) (.lit (.int .i64 0)) = .lit (.int .i64 (posN o x : Int)))
theorem MapN.made (w : World) : MapN (w.alloc (.map #[] 0)) w.heap.size [] := ⟨0, _, World.ownsMap_made w _ _ _, Nat.le_refl _, fun x _ => ⟨by simp [has, memB], fun h => by simp at h⟩⟩
theorem MapN.lt {w : World} {M : Nat} {o : List Nat} (h : MapN w M o) : M < w.heap.size := by obtain ⟨n, D, h1, -⟩ := h; exact h1.lt
theorem MapN.of_block {w w' : World} {M : Nat} {o : List Nat} (h : MapN w M o) (hb : w'.heap[M]? = w.heap[M]?) : MapN w' M o := by
  obtain ⟨n, D, ⟨es, clock, h1, h2⟩, h3⟩ := h
  exact ⟨n, D, ⟨es, clock, hb.trans h1, h2⟩, h3⟩
/-- it is no row -/
theorem MapN.ne_row {w : World} {M : Nat} {o : List Nat} (h : MapN w M o) {b : Nat} {C : Array Value} {T : TypeId} (hb : w.heap[b]? = some (.cells C T)) : b ≠ M := by
  intro e
  subst e
  obtain ⟨n, D, ⟨es, clock, h1, h2⟩, h3⟩ := h
  rw [h1] at hb
  cases hb
theorem keyLitI (x : Nat) : WideAt.IsKeyLit (Lit.int .i64 (x : Int)) := by simp [WideAt.IsKeyLit]
theorem mapN_put {w : World} {M n : Nat} {o : List Nat} {D : DataW Unit} {x : Nat} (h : w.ownsMap Try.prog 3 (plainElem Try.prog 3) M (n + 1) (D.put (.int .i64 (x : Int)) (.lit (.int .i64 (o.length : Int))))) (hm : IsMap D) (hn : n ≤ o.length)
    (hs : ∀ x : Nat, x ≤ 1048576 → has D (.int .i64 (x : Int)) = memB o x ∧ (x ∈ o → D.atKey (.int .i64 (x : Int)) (.lit (.int .i64 0)) = .lit (.int .i64 (posN o x : Int)))) (hx : x ∉ o) : MapN w M (o ++ [x]) := by
  refine ⟨n + 1, _, h, by simp; omega, fun y hy => ?_⟩
  by_cases e : y = x
  · subst e
    refine ⟨?_, fun _ => ?_⟩
    · rw [has_put_same hm (keyLitI y)]; simp [memB]
    · rw [atKey_put_same hm (keyLitI y), posN_snoc o y hx]
  · have hne : Lit.int .i64 (y : Int) ≠ Lit.int .i64 (x : Int) := litI_ne e
    refine ⟨?_, fun hy2 => ?_⟩
    · rw [has_put_other hne, (hs y hy).1]; simp [memB, e]
    · have hyo : y ∈ o := by
        rcases List.mem_append.1 hy2 with h | h
        · exact h
        · exact absurd (by simpa using h) e
      rw [atKey_put_other hne, (hs y hy).2 hyo, posN_app _ _ _ hyo]
end Go.Proofs.Ytjpjikfmdaejeaa
/-
  selectParts IN MEMORY: an arena, a list of work, a map of those that wait; what each operation leaves of them.
-/
namespace Go.Proofs.Ytjpjikfmdaejeaa
set_option linter.unusedVariables false
set_option linter.unusedSimpArgs false
open Go.RowKit Go.Maps Go.ChangeShapes

/-! ### append of places, with where the new row lies -/
theorem run_push_at (w : World) (lo : Nat) (ws news : List Nat) (v x : Value) (ty : TypeId) (hst : Stk w lo ws v) {xs : List Int} (hx : IIn w xs x) (hxs : xs = news.map fun (a : Nat) => (a : Int)) (hlo : lo ≤ w.heap.size) (hb : ws.length + news.length ≤ 1048576) :
    ∃ v' w', (Builtin.append_ #[23, 23] ty #[v, x]).run Try.prog w = .ok v' w' ∧ Stk w' lo (ws ++ news) v' ∧ w.grownBy w' v.ownBlock ∧ (v'.ownBlock = v.ownBlock ∨ v'.ownBlock = some w.heap.size) := by
  obtain ⟨i, z, hi, hz, hs, hby, hzs⟩ := infoI1
  have hlen : xs.length = news.length := by rw [hxs]; simp
  have hx2 := hx
  obtain ⟨ad, cap, rfl, -, -, hr⟩ := hx2
  rcases ad with _ | ad
  · have hnil : news = [] := by
      rcases hr with h | ⟨_, _, h, -⟩
      · rw [h] at hlen; exact List.eq_nil_of_length_eq_zero hlen.symm
      · simp at h
    subst hnil
    rw [hlen]
    refine ⟨v, w, ?_, by simpa using hst, ⟨rfl, rfl, rfl, Nat.le_refl _, fun _ _ _ => rfl⟩, Or.inl rfl⟩
    rcases hst.2 with ⟨rfl, h0⟩ | ⟨g, cap, cur, rfl, _, _, hnc, _⟩
    · simp [Builtin.append_, run_underlying Try.underlying23, sizeOf, typeInfo, hi, Builtin.lenOf, Builtin.firstCells]
    · simp [Builtin.append_, run_underlying Try.underlying23, sizeOf, typeInfo, hi, Builtin.lenOf, Builtin.firstCells, hnc, storeCells]
  · obtain ⟨v', w', hrun, hown, hg, -, hwh⟩ := run_append_own_at (P := Try.prog) w lo 23 ty 3 i z 1 8 Try.underlying23 hi hz hs hby hzs (by decide) v ws.length (plV ws) hst ad news.length cap (plV news) (by rw [plV_length, Nat.mul_one]) (ints_news hx hxs) (plV_one _) (by unfold maxLen; omega) (by omega) hlo
    rw [← hlen] at hrun
    refine ⟨v', w', hrun, ?_, hg, hwh⟩
    unfold Stk
    have e : plV (ws ++ news) = plV ws ++ plV news := by simp [plV]
    rw [e, List.length_append]
    exact hown
theorem wpList_push_at {ops : Array Oper} {rest : List Oper} {o : Oper} {a : Act} {Q : Exit → Act → World → Prop} (hgd : o.guard = none) (s x : Operand)
    (ho : o.op = .call { callee := .builtin .append, args := #[s, x], argTypes := #[23, 23] })
    (w : World) (lo : Nat) (ws news : List Nat) (v xv : Value) (hs : a.eval s = v) (hst : Stk w lo ws v) (hxe : a.eval x = xv) {xs : List Int} (hx : IIn w xs xv) (hxs : xs = news.map fun (a : Nat) => (a : Int)) (hlo : lo ≤ w.heap.size) (hb : ws.length + news.length ≤ 1048576)
    (h : ∀ v' w', Stk w' lo (ws ++ news) v' → w.grownBy w' v.ownBlock → (v'.ownBlock = v.ownBlock ∨ v'.ownBlock = some w.heap.size) → wpList Try.prog ops Q rest (a.put o.dst v') w') : wpList Try.prog ops Q (o :: rest) a w := by
  refine wpList_plain hgd fun K hK => ?_
  obtain ⟨v', w', hrun, h2, h3, h4⟩ := run_push_at w lo ws news v xv o.type hst hx hxs hlo hb
  unfold Oper.wp
  simp [execOp, ho, resolve, invoke, builtin, hs, hxe, hrun, Result.andThen]
  exact hK _ _ (h v' w' h2 h3 h4)

theorem OwnC.next3 {w w' : World} {lo : Nat} {S S' : Nat → Prop} {g : List Ce} {v : Value} (h : OwnC w lo S g v) (hS : ∀ k, S k → k < w.heap.size → S' k) (hr : ∀ k, some k = v.ownBlock → k < w.heap.size → w'.heap[k]? = w.heap[k]?) (hb : ∀ k C, S k → k < w.heap.size → w.heap[k]? = some (.cells C 3 (0, 0)) → w'.heap[k]? = w.heap[k]?) : OwnC w' lo S' g v := by
  obtain ⟨hi0, xs, kb, h1, h2, h3⟩ := h
  refine ⟨hi0, xs, kb, ?_, fun j hj => ?_, h3⟩
  · refine ⟨h1.1, ?_⟩
    rcases h1.2 with h | ⟨b, cap, cur, rfl, hg, hh, r⟩
    · exact Or.inl h
    · exact Or.inr ⟨b, cap, cur, rfl, hg, (hr b rfl (Array.getElem?_eq_some_iff.1 hh).1).trans hh, r⟩
  · obtain ⟨kv, e0, e1, e2, e3⟩ := h2 j hj
    exact ⟨kv, e0, e1, e2, e3.keep hS fun C h1 h2 hC => hb _ C h1 h2 hC⟩

/-! ### The map of those that wait -/
/-- D holds for each place a list of places -/
def MapG (D : DataW Unit) (wt : Nat → List Nat) : Prop := ∀ x : Nat, x ≤ 1048576 → (D.atKey (.int .i64 (x : Int)) .nil = .nil ∧ wt x = []) ∨ D.atKey (.int .i64 (x : Int)) .nil = .slice (lits .i64 (plI (wt x))) []
def GrpW (w : World) (M n : Nat) (wt : Nat → List Nat) : Prop := ∃ D : DataW Unit, w.ownsGroups Try.prog 3 (M + 1) 3 .i64 M n D ∧ MapG D wt
theorem GrpW.made (w : World) : GrpW (w.alloc (.map #[] 0)) w.heap.size 0 (fun _ => []) := ⟨_, World.ownsGroups_made w _ _ _ _, fun x _ => Or.inl ⟨by simp [DataW.atKey], rfl⟩⟩
theorem lits_inj {a b : List Int} (h : (lits .i64 a : List (DataW Unit)) = lits .i64 b) : a = b := (List.map_inj_right (fun x y e => by simpa using e)).1 h
theorem grp_at {w : World} {M x : Nat} {D : DataW Unit} {wt : Nat → List Nat} {v : Value} {zs : List Int} (h : MapG D wt) (hx : x ≤ 1048576) (ha : D.atKey (.int .i64 (x : Int)) .nil = rowDatum .i64 v zs) (ho : w.ownsInts (M + 1) 3 .i64 v zs) : zs = plI (wt x) ∧ Stk w (M + 1) (wt x) v := by
  have e : zs = plI (wt x) := by
    rcases h x hx with ⟨h1, h2⟩ | h1 <;> rw [ha] at h1 <;> rcases ho.datum (H := Unit) with ⟨h3, h4⟩ | h3 <;> rw [h3] at h1
    · rw [h4, h2]; rfl
    · cases h1
    · cases h1
    · simp only [DataW.slice.injEq, and_true] at h1
      exact lits_inj h1
  refine ⟨e, ?_⟩
  have h1 := ho.1
  rw [e] at h1
  unfold Stk
  rw [plI_length] at h1
  have e2 : (plI (wt x)).map (Value.int .i64) = plV (wt x) := by simp [plI, plV]
  rw [e2] at h1
  exact h1
theorem grp_put {D : DataW Unit} {wt : Nat → List Nat} {x : Nat} {ws : List Nat} {v : Value} {w : World} {M : Nat} (h : MapG D wt) (hm : IsMap D) (ho : w.ownsInts (M + 1) 3 .i64 v (plI ws)) (hne : ws ≠ []) : MapG (D.put (.int .i64 (x : Int)) (rowDatum .i64 v (plI ws))) (fun y => if y = x then ws else wt y) := by
  intro y hy
  by_cases e : y = x
  · subst e
    rw [atKey_put_same hm (keyLitI y)]
    dsimp only
    rw [if_pos rfl]
    refine Or.inr (ho.datum_pos fun e => hne ?_)
    have := congrArg List.length e
    rw [plI_length] at this
    exact List.eq_nil_of_length_eq_zero this
  · rw [atKey_put_other (litI_ne e)]
    dsimp only
    rw [if_neg e]
    exact h y hy
theorem ints_of {w : World} {lo : Nat} {ws : List Nat} {v : Value} (h : Stk w lo ws v) (hb : ∀ x ∈ ws, x ≤ 1048576) : w.ownsInts lo 3 .i64 v (plI ws) := by
  refine ⟨?_, fun z hz => ?_⟩
  · rw [plI_length]
    have e2 : (plI ws).map (Value.int .i64) = plV ws := by simp [plI, plV]
    rw [e2]; exact h
  · simp only [plI, List.mem_map] at hz
    obtain ⟨a, ha, rfl⟩ := hz
    exact litI_wf a (hb a ha)
theorem grp_isMap {w : World} {M n : Nat} {D : DataW Unit} (h : w.ownsGroups Try.prog 3 (M + 1) 3 .i64 M n D) : IsMap D := by
  obtain ⟨es, clock, -, -, -, rfl, -⟩ := h
  exact ⟨_, rfl⟩
theorem grp_lt {w : World} {M n : Nat} {wt : Nat → List Nat} (h : GrpW w M n wt) : M < w.heap.size := by
  obtain ⟨D, ⟨es, clock, h1, -⟩, -⟩ := h
  exact (Array.getElem?_eq_some_iff.1 h1).1
theorem grp_row {w : World} {M n b : Nat} {wt : Nat → List Nat} {C : Array Value} {T : TypeId} (h : GrpW w M n wt) (hb : w.heap[b]? = some (.cells C T)) : b ≠ M := by
  rintro rfl
  obtain ⟨D, ⟨es, clock, h1, -⟩, -⟩ := h
  rw [h1] at hb; cases hb
theorem zeroIS (w : World) : (zeroValue 23).run Try.prog w = .ok (.slice none 0 0) w := by kernel_rfl

/-! ### All of it -/
/-- the blocks that the map's rows are not -/
def NoG (S : Nat → Prop) (A : Nat) (gv wv : Value) (k : Nat) : Prop := S k ∨ k = A ∨ some k = gv.ownBlock ∨ some k = wv.ownBlock
structure SpM (A M lo n : Nat) (work : List Nat) (wt : Nat → List Nat) (G : List Ce) (S : Nat → Prop) (gv wv : Value) (w : World) : Prop where
  box : w.heap[A]? = some (.cells #[gv] 51)
  own : OwnC w lo S G gv
  wk : Stk w lo work wv
  mp : GrpW w M n wt
  wsep : ∀ k, some k = wv.ownBlock → ¬ S k
  msep : w.Shuns M (NoG S A gv wv)
  sl : ∀ k, S k → lo ≤ k ∧ k < w.heap.size
  la : lo ≤ A
  lm : lo ≤ M
theorem SpM.alt {A M lo n : Nat} {work : List Nat} {wt : Nat → List Nat} {G : List Ce} {S : Nat → Prop} {gv wv : Value} {w : World} (h : SpM A M lo n work wt G S gv wv w) : A < w.heap.size := (Array.getElem?_eq_some_iff.1 h.box).1
theorem SpM.gb {A M lo n : Nat} {work : List Nat} {wt : Nat → List Nat} {G : List Ce} {S : Nat → Prop} {gv wv : Value} {w : World} (h : SpM A M lo n work wt G S gv wv w) : ∀ k, some k = gv.ownBlock → lo ≤ k ∧ k < w.heap.size ∧ k ≠ A ∧ some k ≠ wv.ownBlock ∧ k ≠ M := by
  intro k e
  obtain ⟨xs, hx⟩ := h.own.row
  rcases hx.2 with ⟨rfl, -⟩ | ⟨b, cap, cur, rfl, hg, hh, -⟩
  · simp [Value.ownBlock] at e
  · simp only [Value.ownBlock, Option.some.injEq] at e
    subst e
    refine ⟨hg, (Array.getElem?_eq_some_iff.1 hh).1, fun e => ?_, fun e => ?_, grp_row h.mp hh⟩
    · rw [e, h.box] at hh; simp at hh
    · rcases h.wk.2 with ⟨e2, -⟩ | ⟨b2, cap2, cur2, e2, -, hh2, -⟩
      · rw [e2] at e; simp [Value.ownBlock] at e
      · rw [e2] at e
        simp only [Value.ownBlock, Option.some.injEq] at e
        subst e
        rw [hh2] at hh; simp at hh
theorem SpM.wb {A M lo n : Nat} {work : List Nat} {wt : Nat → List Nat} {G : List Ce} {S : Nat → Prop} {gv wv : Value} {w : World} (h : SpM A M lo n work wt G S gv wv w) : ∀ k, some k = wv.ownBlock → lo ≤ k ∧ k < w.heap.size ∧ k ≠ A ∧ k ≠ M := by
  intro k e
  rcases h.wk.2 with ⟨rfl, -⟩ | ⟨b, cap, cur, rfl, hg, hh, -⟩
  · simp [Value.ownBlock] at e
  · simp only [Value.ownBlock, Option.some.injEq] at e
    subst e
    refine ⟨hg, (Array.getElem?_eq_some_iff.1 hh).1, fun e => ?_, grp_row h.mp hh⟩
    rw [e, h.box] at hh; simp at hh
/-- what is kept by a change of one row that is no row of the map -/
theorem GrpW.kept {w w' : World} {M n : Nat} {wt : Nat → List Nat} {row : Option Nat} {No : Nat → Prop} (h : GrpW w M n wt) (hs : w.Shuns M No) (hg : w.grownBy w' row) (hr : ∀ k, row = some k → No k ∧ k ≠ M) : GrpW w' M n wt ∧ w'.Shuns M No := by
  have hM := grp_lt h
  have hne : some M ≠ row := fun e => (hr M e.symm).2 rfl
  obtain ⟨D, h1, h2⟩ := h
  exact ⟨⟨D, h1.kept hg hne (hs.rowsOff fun k e => (hr k e).1), h2⟩, hs.kept hg hM hne⟩
theorem below_grown {w w' : World} (h : Below w.heap.size w w') : w.grownBy w' none := ⟨h.os, h.tape, h.output, h.size, fun k hk _ => h.block k hk⟩
theorem GrpW.reno {w : World} {M n : Nat} {wt : Nat → List Nat} {No No' : Nat → Prop} (h : GrpW w M n wt) (hs : w.Shuns M No) (hn : ∀ k, No' k → No k ∨ w.heap.size ≤ k) : w.Shuns M No' := by
  obtain ⟨D, h1, -⟩ := h
  exact hs.reno h1 hn
/-- new blocks alone -/
theorem SpM.next {A M lo n : Nat} {work : List Nat} {wt : Nat → List Nat} {G : List Ce} {S : Nat → Prop} {gv wv : Value} {w w' : World} (h : SpM A M lo n work wt G S gv wv w) (hb : Below w.heap.size w w') : SpM A M lo n work wt G S gv wv w' := by
  obtain ⟨h1, h2⟩ := h.mp.kept h.msep (below_grown hb) (fun k e => by cases e)
  exact ⟨(hb.block A h.alt).trans h.box, h.own.next (fun _ h _ => h) (fun k _ hz => hb.block k hz) (fun k _ hz => hb.block k hz), h.wk.keep (fun k _ hk => hb.block k hk), h1, h.wsep, h2, fun k hk => ⟨(h.sl k hk).1, Nat.lt_of_lt_of_le (h.sl k hk).2 hb.size⟩, h.la, h.lm⟩
/-- the last of the work is taken -/
theorem SpM.pop {A M lo n i : Nat} {rest : List Nat} {wt : Nat → List Nat} {G : List Ce} {S : Nat → Prop} {gv wv : Value} {w : World} (h : SpM A M lo n (rest ++ [i]) wt G S gv wv w) :
    ∃ g cap, wv = .slice (some ⟨g, 0, none⟩) (rest.length + 1) cap ∧ rest.length + 1 ≤ cap ∧ cap ≤ maxLen ∧ w.cell? ⟨g, rest.length, none⟩ = some (.int .i64 (i : Int)) ∧ SpM A M lo n rest wt G S gv (.slice (some ⟨g, 0, none⟩) rest.length cap) w := by
  obtain ⟨g, cap, rfl, hg, hgz, hc, hm, hcell, hst⟩ := h.wk.top
  exact ⟨g, cap, rfl, hc, hm, hcell, h.box, h.own, hst, h.mp, h.wsep, h.msep, h.sl, h.la, h.lm⟩
/-- a cell becomes an indirection -/
theorem SpM.ind {A M lo n b cap N : Nat} {work : List Nat} {wt : Nat → List Nat} {G : List Ce} {S : Nat → Prop} {wv : Value} {w : World} (h : SpM A M lo n work wt G S (.slice (some ⟨b, 0, none⟩) N cap) wv w) (hN : N = G.length) (hlo : lo ≤ w.heap.size) (i k : Nat) (hi : i < G.length) :
    SpM A M lo n work wt (G.set i (indTo k)) (fun x => S x ∨ x = w.heap.size) (.slice (some ⟨b, 0, none⟩) N cap) wv (st3 (w.alloc (.cells #[.int .i64 (k : Int)] 3)) b i 11 0 (.slice (some ⟨w.heap.size, 0, none⟩) 1 1)) := by
  have hgb := h.gb b rfl
  have h1 := h.next (box_below w (.cells #[.int .i64 (k : Int)] 3))
  have hkeep : ∀ x, x ≠ b → (st3 (w.alloc (.cells #[.int .i64 (k : Int)] 3)) b i 11 0 (.slice (some ⟨w.heap.size, 0, none⟩) 1 1)).heap[x]? = (w.alloc (.cells #[.int .i64 (k : Int)] 3)).heap[x]? := fun x hx => st3_block hx
  have hgrow : (w.alloc (.cells #[.int .i64 (k : Int)] 3)).grownBy (st3 (w.alloc (.cells #[.int .i64 (k : Int)] 3)) b i 11 0 (.slice (some ⟨w.heap.size, 0, none⟩) 1 1)) (some b) := ⟨rfl, rfl, rfl, Nat.le_of_eq st3_size.symm, fun x _ hn => hkeep x fun e => hn (by rw [e])⟩
  obtain ⟨m1, m2⟩ := h1.mp.kept h1.msep hgrow (fun x e => by simp only [Option.some.injEq] at e; subst e; exact ⟨Or.inr (Or.inr (Or.inl rfl)), hgb.2.2.2.2⟩)
  have hz : (st3 (w.alloc (.cells #[.int .i64 (k : Int)] 3)) b i 11 0 (.slice (some ⟨w.heap.size, 0, none⟩) 1 1)).heap.size = w.heap.size + 1 := by rw [st3_size, Deep.nblk_alloc]
  subst hN
  refine ⟨(hkeep A hgb.2.2.1.symm).trans h1.box, ?_, ?_, m1, fun x e hx => ?_, ?_, fun x hx => ?_, h.la, h.lm⟩
  · exact h1.own.setc i hi (c := indTo k) (ind_i64W k) (krow_one w k) fun hs => by have := (h.sl _ hs).2; omega
  · refine ⟨h1.wk.1, ?_⟩
    rcases h1.wk.2 with h' | ⟨b2, cap2, cur, e, hg, hh, r⟩
    · exact Or.inl h'
    · exact Or.inr ⟨b2, cap2, cur, e, hg, (hkeep b2 fun e2 => hgb.2.2.2.1 (by rw [e, e2]; rfl)).trans hh, r⟩
  · rcases hx with hx | hx
    · exact h.wsep x e hx
    · have := (h.wb x e).2.1; omega
  · have hs2 : w.Shuns M (NoG (fun x => S x ∨ x = w.heap.size) A (.slice (some ⟨b, 0, none⟩) G.length cap) wv) := h.mp.reno h.msep fun x hx => by
      rcases hx with (hx | hx) | hx
      · exact Or.inl (Or.inl hx)
      · exact Or.inr (by omega)
      · exact Or.inl (Or.inr hx)
    have hM := grp_lt h.mp
    exact (hs2.kept (below_grown (box_below w _)) hM (by simp)).kept hgrow (by rw [Deep.nblk_alloc]; omega) (by simp only [ne_eq, Option.some.injEq]; exact hgb.2.2.2.2.symm)
  · rw [hz]
    rcases hx with hx | hx
    · exact ⟨(h.sl x hx).1, by have := (h.sl x hx).2; omega⟩
    · exact ⟨by omega, by omega⟩
/-- more work -/
theorem SpM.push {A M lo n : Nat} {work news : List Nat} {wt : Nat → List Nat} {G : List Ce} {S : Nat → Prop} {gv wv v' : Value} {w w' : World} (h : SpM A M lo n work wt G S gv wv w) (hst : Stk w' lo (work ++ news) v') (hg : w.grownBy w' wv.ownBlock) (hw : v'.ownBlock = wv.ownBlock ∨ v'.ownBlock = some w.heap.size) :
    SpM A M lo n (work ++ news) wt G S gv v' w' := by
  have hs := hg.size
  obtain ⟨m1, m2⟩ := h.mp.kept h.msep hg (fun k e => ⟨Or.inr (Or.inr (Or.inr e.symm)), (h.wb k e.symm).2.2.2⟩)
  have hv : ∀ k, some k = v'.ownBlock → some k = wv.ownBlock ∨ k = w.heap.size := fun k e => by
    rcases hw with hw | hw
    · exact Or.inl (e.trans hw)
    · rw [hw] at e; simp only [Option.some.injEq] at e; exact Or.inr e
  refine ⟨(hg.block A h.alt fun e => (h.wb A e).2.2.1 rfl).trans h.box, ?_, hst, m1, fun k e hk => ?_, ?_, fun k hk => ⟨(h.sl k hk).1, Nat.lt_of_lt_of_le (h.sl k hk).2 hs⟩, h.la, h.lm⟩
  · exact h.own.next (fun _ h _ => h) (fun k e hz => hg.block k hz fun e2 => (h.gb k e).2.2.2.1 e2) (fun k hk hz => hg.block k hz fun e2 => h.wsep k e2 hk)
  · rcases hv k e with e | e
    · exact h.wsep k e hk
    · have := (h.sl k hk).2; omega
  · have hs2 : w.Shuns M (NoG S A gv v') := h.mp.reno h.msep fun k hk => by
      rcases hk with hk | hk | hk | hk
      · exact Or.inl (Or.inl hk)
      · exact Or.inl (Or.inr (Or.inl hk))
      · exact Or.inl (Or.inr (Or.inr (Or.inl hk)))
      · rcases hv k hk with e | e
        · exact Or.inl (Or.inr (Or.inr (Or.inr e)))
        · exact Or.inr (by omega)
    exact hs2.kept hg (grp_lt h.mp) fun e => (h.wb M e).2.2.2 rfl
/-- the look-up of those that wait for a cell -/
theorem wpList_lookG {ops : Array Oper} {rest : List Oper} {o1 : Oper} {a : Act} {Q : Exit → Act → World → Prop} (w : World) (hg : o1.guard = none) (m x : Operand) (hop : o1.op = Op.lookup 70 m x false) (M n : Nat) (wt : Nat → List Nat) (No : Nat → Prop) (hM : GrpW w M n wt) (hS : w.Shuns M No) (hn : n ≤ 1048576) (hm : a.eval m = .map (some M)) (q : Nat) (hq : q ≤ 1048576)
    (hx : a.eval x = .int .i64 (q : Int))
    (hK : ∀ v (D : DataW Unit), Stk w (M + 1) (wt q) v → (∀ k, some k = v.ownBlock → ¬ No k) → w.ownsGroups Try.prog 3 (M + 1) 3 .i64 M n D → MapG D wt → (wt q).length ≤ n → w.groupBack Try.prog 70 3 (M + 1) 3 .i64 M n D (.int .i64 (q : Int)) (.int .i64 (q : Int)) v → wpList Try.prog ops Q rest (a.put o1.dst v) w) : wpList Try.prog ops Q (o1 :: rest) a w := by
  obtain ⟨D, hown, hD⟩ := hM
  refine wpList_lookup_groups_shuns w hg m x 70 hop 3 23 3 .i64 keyedI Try.underlying70 (zeroIS w) (M + 1) M n D hm hown (by unfold maxLen; omega) (.int .i64 (q : Int)) (.int .i64 (q : Int)) hx (keyOf_int_mk Try.underlying3 (litI_wf q hq)) ?_
  intro v zs hat hoi hzl hback hsh
  obtain ⟨rfl, hst⟩ := grp_at hD hq hat hoi
  rw [plI_length] at hzl
  exact hK v D hst (fun k e => hsh No hS k e.symm) hown hD hzl hback
/-- a cell waits for another one -/
theorem SpM.store {A M lo n q : Nat} {work ws : List Nat} {wt : Nat → List Nat} {G : List Ce} {S : Nat → Prop} {gv wv v : Value} {w w3 w4 : World} {D' : DataW Unit} (h : SpM A M lo n work wt G S gv wv w)
    (hv : ∀ k, some k = v.ownBlock → ¬ NoG S A gv wv k ∧ k ≠ M) (hg : w.grownBy w3 v.ownBlock) (hg4 : w3.grownBy w4 (some M)) (h4 : w4.ownsGroups Try.prog 3 (M + 1) 3 .i64 M (n + 1) D') (hD' : MapG D' (fun y => if y = q then ws else wt y)) (hs4 : w4.Shuns M (NoG S A gv wv)) :
    SpM A M lo (n + 1) work (fun y => if y = q then ws else wt y) G S gv wv w4 := by
  have hM := grp_lt h.mp
  have keep : ∀ k, k < w.heap.size → NoG S A gv wv k → k ≠ M → w4.heap[k]? = w.heap[k]? := fun k hk hN hne => (hg4.block k (Nat.lt_of_lt_of_le hk hg.size) (by simpa using hne)).trans (hg.block k hk fun e => (hv k e).1 hN)
  have hSM : ∀ k, S k → k < w.heap.size → w.heap[k]? ≠ none := fun k _ hk e => by simp [hk] at e
  refine ⟨(keep A h.alt (Or.inr (Or.inl rfl)) (fun e => grp_row h.mp h.box e)).trans h.box, ?_, ?_, ⟨D', h4, hD'⟩, h.wsep, hs4, fun k hk => ⟨(h.sl k hk).1, Nat.lt_of_lt_of_le (h.sl k hk).2 (Nat.le_trans hg.size hg4.size)⟩, h.la, h.lm⟩
  · exact h.own.next3 (fun _ h _ => h) (fun k e hk => keep k hk (Or.inr (Or.inr (Or.inl e))) (h.gb k e).2.2.2.2) (fun k C hS hk hC => keep k hk (Or.inl hS) (grp_row h.mp hC))
  · refine ⟨h.wk.1, ?_⟩
    rcases h.wk.2 with h' | ⟨b2, cap2, cur, e, hgl, hh, r⟩
    · exact Or.inl h'
    · have e2 : some b2 = wv.ownBlock := by rw [e]; rfl
      exact Or.inr ⟨b2, cap2, cur, e, hgl, (keep b2 (Array.getElem?_eq_some_iff.1 hh).1 (Or.inr (Or.inr (Or.inr e2))) (h.wb b2 e2).2.2.2).trans hh, r⟩
end Go.Proofs.Ytjpjikfmdaejeaa
/-
  SMALL FACTS ON ROWS OF EXPRESSIONS' CELLS: the element type's row of the table; a new block's cells.
-/
namespace Go.Proofs.Ytjpjikfmdaejeaa
set_option linter.unusedVariables false
set_option linter.unusedSimpArgs false
open Go.RowKit

theorem news3 (w : World) (a b c : Value) (j : Nat) (u : Value) (h : [a, b, c][j]? = some u) : (w.alloc (.cells #[a, b, c] 79)).cell? ((⟨w.heap.size, 0, none⟩ : Addr).add j) = some u := by
  rw [WideShapes.add_plain, Nat.zero_add]
  exact box_cell w #[a, b, c] _ j u (by simpa using h)
theorem infoE3 : ∃ i z, Try.prog.info? 79 = some i ∧ i.zero = some z ∧ i.size = 3 ∧ i.bytes = 40 ∧ z.cells.size = 3 := by
  obtain ⟨i, hi, hzz⟩ := Option.map_eq_some_iff.1 infoE
  simp only [Prod.mk.injEq] at hzz
  obtain ⟨hz, hs, hb⟩ := hzz
  exact ⟨i, _, hi, hz, hs, hb, rfl⟩
end Go.Proofs.Ytjpjikfmdaejeaa
/-
  slices.Clone of a list of places.
-/
namespace Go.Proofs.Ytjpjikfmdaejeaa
set_option linter.unusedVariables false
set_option linter.unusedSimpArgs false
open Go.RowKit

/-- a copy, in a row of its own -/
def CloneRes (ws : List Nat) (w : World) (e : Ending) (w' : World) : Prop := ∃ v, e = .returned v ∧ Stk w' w.heap.size ws v ∧ Below w.heap.size w w'
theorem clone_below {wr w1 : World} {o : Obj} (h : (wr.alloc o).grownBy w1 (Value.slice (some ⟨wr.heap.size, 0, none⟩) 0 0).ownBlock) : Below wr.heap.size wr w1 :=
  ⟨h.os, h.tape, h.output, by have h1 : (wr.alloc o).heap.size ≤ w1.heap.size := h.size; rw [Deep.nblk_alloc] at h1; omega, fun k hk => (h.block k (by show k < (wr.alloc o).heap.size; rw [Deep.nblk_alloc]; omega) (by simp only [Value.ownBlock, ne_eq, Option.some.injEq]; omega)).trans (Deep.blk_alloc_lt _ _ _ hk)⟩
set_option maxRecDepth 100000 in
set_option maxHeartbeats 1600000 in
theorem cloneI_calls (ws : List Nat) (v : Value) (w : World) (hk : IIn w (ws.map fun (a : Nat) => (a : Int)) v) (hl : ws.length ≤ 1048576) : Calls Try.prog 54 #[v] w (CloneRes ws w) := by
  have HK : Hid (IIn w (ws.map fun (a : Nat) => (a : Int)) v) := hk
  obtain ⟨ad, cap, rfl, hlc, hm, hr⟩ := hk
  unfold maxLen at hm
  rcases ad with _ | ad
  · have hnil : ws = [] := by
      rcases hr with h | ⟨_, _, h, -⟩
      · simpa using h
      · simp at h
    subst hnil
    clear hr HK
    have q : (binOp .eql 23 (.slice none 0 cap) (.slice none 0 0)).run Try.prog w = .ok (.bool true) w := Lib.run_eql_slice_nil w _ _ none 0 cap 0 0 Try.underlying23
    go_enter Try.func54, Try.ntmps54
    go_wp2_with fail
    go_ret
    exact ⟨_, rfl, World.ownsRow_nil _ _ _ _, Below.refl _ _⟩
  · clear hr
    have q : (binOp .eql 23 (.slice (some ad) ws.length cap) (.slice none 0 0)).run Try.prog w = .ok (.bool false) w := Lib.run_eql_slice_nil w _ _ (some ad) ws.length cap 0 0 Try.underlying23
    go_enter Try.func54, Try.ntmps54
    go_wp2_with (at_builtin; go_must (refine wpList_push rfl _ _ rfl _ w.heap.size [] ws (.slice (some ⟨w.heap.size, 0, none⟩) 0 0) (.slice (some ad) (ws.map fun (a : Nat) => (a : Int)).length cap) rfl (stk_zero (Deep.blk_alloc_new w _) (Nat.le_refl _)) rfl (HK.out.next (box_below w _)) rfl (by rw [Deep.nblk_alloc]; omega) (by simp only [List.length_nil]; omega) ?_); go_must (intro v1 w1 hst1 hg1); go_must (have HST1 : Hid (Stk w1 w.heap.size ws v1) := hst1); go_must (have HB1 : Hid (Below w.heap.size w w1) := clone_below hg1); clear hst1 hg1)
    go_ret
    exact ⟨_, rfl, HST1.out, HB1.out⟩
end Go.Proofs.Ytjpjikfmdaejeaa
/-
  TREES WHOSE BLOCKS ARE ALL DISTINCT: a footprint, the list of the blocks of a tree's rows; what a write into them leaves.
-/
namespace Go.Proofs.Ytjpjikfmdaejeaa
set_option linter.unusedVariables false
set_option linter.unusedSimpArgs false
open Go.RowKit

mutual
/-- the three cells of a tree, its rows in the blocks fp -/
def TrFp (w : World) (T : TypeId) : Tr → List Nat → Value → Value → Value → Prop
  | .node op n ks, fp, a, b, c => a = .int .i64 op ∧ b = .int .i64 n ∧ I64 op ∧ I64 n ∧
      ∃ ad cap, c = .slice ad ks.length cap ∧ ks.length ≤ cap ∧ cap ≤ maxLen ∧
        ((ks = [] ∧ fp = []) ∨ ∃ bl off C fps, ad = some ⟨bl, off, none⟩ ∧ w.heap[bl]? = some (.cells C T) ∧ fp = bl :: fps.flatten ∧ RowFp w T bl off ks fps)
/-- the trees of a row, each with its own blocks -/
def RowFp (w : World) (T : TypeId) (bl off : Nat) : List Tr → List (List Nat) → Prop
  | [], fps => fps = []
  | t :: ts, fps => ∃ f fs, fps = f :: fs ∧ (∃ a b c, w.cell? ⟨bl, off, none⟩ = some a ∧ w.cell? ⟨bl, off + 1, none⟩ = some b ∧ w.cell? ⟨bl, off + 2, none⟩ = some c ∧ TrFp w T t f a b c) ∧ RowFp w T bl (off + 3) ts fs
end

/-- a slice value that holds these trees, in the blocks fp -/
def KidsFp (w : World) (T : TypeId) (ks : List Tr) (fp : List Nat) (c : Value) : Prop :=
  ∃ ad cap, c = .slice ad ks.length cap ∧ ks.length ≤ cap ∧ cap ≤ maxLen ∧
    ((ks = [] ∧ fp = []) ∨ ∃ bl off C fps, ad = some ⟨bl, off, none⟩ ∧ w.heap[bl]? = some (.cells C T) ∧ fp = bl :: fps.flatten ∧ RowFp w T bl off ks fps)

theorem trFp_iff {w : World} {T : TypeId} {t : Tr} {fp : List Nat} {a b c : Value} : TrFp w T t fp a b c ↔ a = .int .i64 t.op ∧ b = .int .i64 t.num ∧ I64 t.op ∧ I64 t.num ∧ KidsFp w T t.kids fp c := by
  cases t; simp [TrFp, KidsFp]

mutual
theorem TrFp.keep {w w' : World} {T : TypeId} : ∀ (t : Tr) (fp : List Nat) (a b c : Value), (∀ k ∈ fp, w'.heap[k]? = w.heap[k]?) → TrFp w T t fp a b c → TrFp w' T t fp a b c
  | .node op n ks, fp, a, b, c, hw, h => by
    simp only [TrFp] at h ⊢
    obtain ⟨h1, h2, h3, h4, ad, cap, e, l1, l2, h5⟩ := h
    refine ⟨h1, h2, h3, h4, ad, cap, e, l1, l2, ?_⟩
    rcases h5 with h5 | ⟨bl, off, C, fps, e, hb, rfl, r⟩
    · exact Or.inl h5
    · exact Or.inr ⟨bl, off, C, fps, e, (hw bl (by simp)).trans hb, rfl, RowFp.keep bl off ks fps (hw bl (by simp)) (fun f hf k hk => hw k (by simp only [List.mem_cons, List.mem_flatten]; exact Or.inr ⟨f, hf, hk⟩)) r⟩
theorem RowFp.keep {w w' : World} {T : TypeId} (bl off : Nat) : ∀ (ks : List Tr) (fps : List (List Nat)), w'.heap[bl]? = w.heap[bl]? → (∀ f ∈ fps, ∀ k ∈ f, w'.heap[k]? = w.heap[k]?) → RowFp w T bl off ks fps → RowFp w' T bl off ks fps
  | [], fps, _, _, h => by simpa [RowFp] using h
  | t :: ts, fps, hb, hw, h => by
    simp only [RowFp] at h ⊢
    obtain ⟨f, fs, rfl, ⟨a, b, c, ha, hbb, hc, ht⟩, hr⟩ := h
    refine ⟨f, fs, rfl, ⟨a, b, c, ?_, ?_, ?_, TrFp.keep t f a b c (hw f (by simp)) ht⟩, RowFp.keep bl (off + 3) ts fs hb (fun g hg => hw g (by simp [hg])) hr⟩
    · rw [World.cell?_of_block (w := w) hb]; exact ha
    · rw [World.cell?_of_block (w := w) hb]; exact hbb
    · rw [World.cell?_of_block (w := w) hb]; exact hc
end
theorem KidsFp.keep {w w' : World} {T : TypeId} {ks : List Tr} {fp : List Nat} {c : Value} (h : KidsFp w T ks fp c) (hw : ∀ k ∈ fp, w'.heap[k]? = w.heap[k]?) : KidsFp w' T ks fp c := by
  obtain ⟨ad, cap, e, l1, l2, h5⟩ := h
  refine ⟨ad, cap, e, l1, l2, ?_⟩
  rcases h5 with h5 | ⟨bl, off, C, fps, e, hb, rfl, r⟩
  · exact Or.inl h5
  · exact Or.inr ⟨bl, off, C, fps, e, (hw bl (by simp)).trans hb, rfl, RowFp.keep bl off ks fps (hw bl (by simp)) (fun f hf k hk => hw k (by simp only [List.mem_cons, List.mem_flatten]; exact Or.inr ⟨f, hf, hk⟩)) r⟩

/-- the blocks lie in the heap -/
theorem cellsOf_lt {w : World} {b : Nat} {o : Obj} (h : w.heap[b]? = some o) : b < w.heap.size := (Array.getElem?_eq_some_iff.1 h).1
mutual
theorem TrFp.on {w : World} {T : TypeId} {S : Nat → Prop} : ∀ (t : Tr) (fp : List Nat) (a b c : Value), (∀ k ∈ fp, S k) → TrFp w T t fp a b c → TrOn w S t a b c
  | .node op n ks, fp, a, b, c, hS, h => by
    simp only [TrFp] at h
    simp only [TrOn]
    obtain ⟨h1, h2, h3, h4, ad, cap, e, l1, l2, h5⟩ := h
    refine ⟨h1, h2, h3, h4, ad, cap, e, l1, l2, ?_⟩
    rcases h5 with ⟨h5, _⟩ | ⟨bl, off, C, fps, e, hb, rfl, r⟩
    · exact Or.inl h5
    · exact Or.inr ⟨bl, off, e, hS bl (by simp), RowFp.on bl off ks fps (fun f hf k hk => hS k (by simp only [List.mem_cons, List.mem_flatten]; exact Or.inr ⟨f, hf, hk⟩)) r⟩
theorem RowFp.on {w : World} {T : TypeId} {S : Nat → Prop} (bl off : Nat) : ∀ (ks : List Tr) (fps : List (List Nat)), (∀ f ∈ fps, ∀ k ∈ f, S k) → RowFp w T bl off ks fps → RowOn w S bl off ks
  | [], fps, _, h => by simp [RowOn]
  | t :: ts, fps, hS, h => by
    simp only [RowFp] at h
    simp only [RowOn]
    obtain ⟨f, fs, rfl, ⟨a, b, c, ha, hbb, hc, ht⟩, hr⟩ := h
    exact ⟨⟨a, b, c, ha, hbb, hc, TrFp.on t f a b c (hS f (by simp)) ht⟩, RowFp.on bl (off + 3) ts fs (fun g hg => hS g (by simp [hg])) hr⟩
end
theorem KidsFp.on {w : World} {T : TypeId} {S : Nat → Prop} {ks : List Tr} {fp : List Nat} {c : Value} (h : KidsFp w T ks fp c) (hS : ∀ k ∈ fp, S k) : KidsOn w S ks c := by
  obtain ⟨ad, cap, e, l1, l2, h5⟩ := h
  refine ⟨ad, cap, e, l1, l2, ?_⟩
  rcases h5 with ⟨h5, _⟩ | ⟨bl, off, C, fps, e, hb, rfl, r⟩
  · exact Or.inl h5
  · exact Or.inr ⟨bl, off, e, hS bl (by simp), RowFp.on bl off ks fps (fun f hf k hk => hS k (by simp only [List.mem_cons, List.mem_flatten]; exact Or.inr ⟨f, hf, hk⟩)) r⟩

/-- element i of a row -/
theorem RowFp.at {w : World} {T : TypeId} {bl : Nat} : ∀ (ks : List Tr) (fps : List (List Nat)) (off i : Nat) (hi : i < ks.length), RowFp w T bl off ks fps →
    fps.length = ks.length ∧ ∃ f, fps[i]? = some f ∧ ∃ a b c, w.cell? ⟨bl, off + i * 3, none⟩ = some a ∧ w.cell? ⟨bl, off + i * 3 + 1, none⟩ = some b ∧ w.cell? ⟨bl, off + i * 3 + 2, none⟩ = some c ∧ TrFp w T ks[i] f a b c
  | [], _, _, _, hi, _ => by simp at hi
  | t :: ts, fps, off, 0, _, h => by
    simp only [RowFp] at h
    obtain ⟨f, fs, rfl, h1, h2⟩ := h
    refine ⟨?_, f, rfl, by simpa using h1⟩
    cases ts with
    | nil => simp only [RowFp] at h2; simp [h2]
    | cons u us => simp [(RowFp.at (u :: us) fs (off + 3) 0 (by simp) h2).1]
  | t :: ts, fps, off, i + 1, hi, h => by
    simp only [RowFp] at h
    obtain ⟨f, fs, rfl, h1, h2⟩ := h
    have := RowFp.at ts fs (off + 3) i (by simpa using hi) h2
    have e : off + 3 + i * 3 = off + (i + 1) * 3 := by omega
    rw [e] at this
    exact ⟨by simp [this.1], by simpa using this.2⟩

/-- a row from its elements -/
theorem RowFp.of {w : World} {T : TypeId} {bl : Nat} : ∀ (ks : List Tr) (fps : List (List Nat)) (off : Nat), fps.length = ks.length →
    (∀ i (hi : i < ks.length), ∃ f, fps[i]? = some f ∧ ∃ a b c, w.cell? ⟨bl, off + i * 3, none⟩ = some a ∧ w.cell? ⟨bl, off + i * 3 + 1, none⟩ = some b ∧ w.cell? ⟨bl, off + i * 3 + 2, none⟩ = some c ∧ TrFp w T ks[i] f a b c) → RowFp w T bl off ks fps
  | [], fps, _, hl, _ => by simpa [RowFp] using hl
  | t :: ts, [], _, hl, _ => by simp at hl
  | t :: ts, f :: fs, off, hl, h => by
    simp only [RowFp]
    refine ⟨f, fs, rfl, ?_, RowFp.of ts fs (off + 3) (by simpa using hl) fun i hi => ?_⟩
    · obtain ⟨f', hf, a, b, c, h1⟩ := h 0 (by simp)
      simp only [List.getElem?_cons_zero, Option.some.injEq] at hf
      subst hf
      simp only [Nat.zero_mul, Nat.add_zero, List.getElem_cons_zero] at h1
      exact ⟨a, b, c, h1⟩
    · have := h (i + 1) (by simpa using hi)
      have e : off + (i + 1) * 3 = off + 3 + i * 3 := by omega
      rw [e] at this
      simpa using this

/-! ### Numbered trees -/
/-- the trees of a list with their numbers replaced, in order, from k on -/
def labL : List Tr → Int → List Tr
  | [], _ => []
  | .node _ _ ks :: ts, k => .node k (k + 1) (labL ks (k + 2)) :: labL ts (k + 2 + 2 * (szL ks : Int))
theorem labL_length : ∀ (ts : List Tr) (k : Int), (labL ts k).length = ts.length
  | [], _ => by simp [labL]
  | .node _ _ ks :: ts, k => by simp [labL, labL_length ts]
theorem labL_cons (t : Tr) (ts : List Tr) (k : Int) : labL (t :: ts) k = .node k (k + 1) (labL t.kids (k + 2)) :: labL ts (k + 2 + 2 * (szT t : Int)) := by
  cases t; simp [labL, szT]
theorem labL_append : ∀ (a b : List Tr) (k : Int), labL (a ++ b) k = labL a k ++ labL b (k + 2 * (szL a : Int))
  | [], b, k => by simp [labL, szL]
  | t :: a, b, k => by
    rw [List.cons_append, labL_cons, labL_cons, labL_append a b]
    simp only [List.cons_append, szL]
    congr 3
    push_cast
    omega
end Go.Proofs.Ytjpjikfmdaejeaa
/-
  THE NUMBERS THAT MARKED TREES BEAR, element by element.
-/
namespace Go.Proofs.Ytjpjikfmdaejeaa
set_option linter.unusedVariables false
set_option linter.unusedSimpArgs false
open Go.RowKit

/-- the number that stands at element i -/
def labAt (ks : List Tr) (k : Int) (i : Nat) : Int := k + 2 * (szL (ks.take i) : Int)
theorem labAt_zero (ks : List Tr) (k : Int) : labAt ks k 0 = k := by simp [labAt, szL]
theorem labAt_end (ks : List Tr) (k : Int) : labAt ks k ks.length = k + 2 * (szL ks : Int) := by simp [labAt]
theorem labAt_succ (ks : List Tr) (k : Int) (i : Nat) (hi : i < ks.length) : labAt ks k (i + 1) = labAt ks k i + 2 + 2 * (szL ks[i].kids : Int) := by
  unfold labAt
  rw [szL_take_succ ks i hi, szT_eq]
  push_cast
  omega
theorem labAt_le (ks : List Tr) (k : Int) (i : Nat) : k ≤ labAt ks k i ∧ labAt ks k i ≤ k + 2 * (szL ks : Int) := by
  have := szL_take_le ks i
  unfold labAt
  omega
theorem labL_get : ∀ (ks : List Tr) (k : Int) (i : Nat) (hi : i < ks.length) (hj : i < (labL ks k).length), (labL ks k)[i] = .node (labAt ks k i) (labAt ks k i + 1) (labL ks[i].kids (labAt ks k i + 2))
  | [], _, _, hi, _ => by simp at hi
  | t :: ts, k, 0, _, _ => by simp [labL_cons, labAt_zero]
  | t :: ts, k, i + 1, hi, hj => by
    have := labL_get ts (k + 2 + 2 * (szT t : Int)) i (by simpa using hi) (by rw [labL_length]; simpa using hi)
    simp only [labL_cons, List.getElem_cons_succ, this]
    have e : labAt ts (k + 2 + 2 * (szT t : Int)) i = labAt (t :: ts) k (i + 1) := by
      unfold labAt
      simp only [List.take_succ_cons, szL]
      push_cast
      omega
    rw [e]

end Go.Proofs.Ytjpjikfmdaejeaa
/-
  THE LAWS' OWN MARKING OF TREES (markExprS, markExpr): a list of trees whose blocks are all distinct bears its numbers in order afterwards; no other block is changed.
-/
namespace Go.Proofs.Ytjpjikfmdaejeaa
set_option linter.unusedVariables false
set_option linter.unusedSimpArgs false
open Go.RowKit


mutual
theorem TrFp.lt {w : World} {T : TypeId} : ∀ (t : Tr) (fp : List Nat) (a b c : Value), TrFp w T t fp a b c → ∀ k ∈ fp, k < w.heap.size
  | .node op n ks, fp, a, b, c, h, k, hk => by
    simp only [TrFp] at h
    obtain ⟨-, -, -, -, ad, cap, e, l1, l2, h5⟩ := h
    rcases h5 with ⟨-, rfl⟩ | ⟨bl, off, C, fps, e, hb, rfl, r⟩
    · simp at hk
    · simp only [List.mem_cons, List.mem_flatten] at hk
      rcases hk with rfl | ⟨f, hf, hk⟩
      · exact cellsOf_lt hb
      · exact RowFp.lt bl off ks fps r f hf k hk
theorem RowFp.lt {w : World} {T : TypeId} (bl off : Nat) : ∀ (ks : List Tr) (fps : List (List Nat)), RowFp w T bl off ks fps → ∀ f ∈ fps, ∀ k ∈ f, k < w.heap.size
  | [], fps, h, f, hf, k, hk => by simp only [RowFp] at h; subst h; simp at hf
  | t :: ts, fps, h, f, hf, k, hk => by
    simp only [RowFp] at h
    obtain ⟨g, gs, rfl, ⟨a, b, c, -, -, -, ht⟩, hr⟩ := h
    simp only [List.mem_cons] at hf
    rcases hf with rfl | hf
    · exact TrFp.lt t f a b c ht k hk
    · exact RowFp.lt bl (off + 3) ts gs hr f hf k hk
end
theorem KidsFp.lt {w : World} {T : TypeId} {ks : List Tr} {fp : List Nat} {c : Value} (h : KidsFp w T ks fp c) : ∀ k ∈ fp, k < w.heap.size := by
  obtain ⟨ad, cap, e, l1, l2, h5⟩ := h
  intro k hk
  rcases h5 with ⟨-, rfl⟩ | ⟨bl, off, C, fps, e, hb, rfl, r⟩
  · simp at hk
  · simp only [List.mem_cons, List.mem_flatten] at hk
    rcases hk with rfl | ⟨f, hf, hk⟩
    · exact cellsOf_lt hb
    · exact RowFp.lt bl off ks fps r f hf k hk

/-- two lists out of a list of lists have no block in common -/
theorem flatten_disj : ∀ {fps : List (List Nat)} (h : fps.flatten.Nodup) {i j : Nat} {f g : List Nat}, fps[i]? = some f → fps[j]? = some g → i ≠ j → ∀ k ∈ f, k ∉ g
  | [], _, _, _, _, _, hi, _, _, _, _ => by simp at hi
  | x :: xs, h, 0, 0, _, _, _, _, hne, _, _ => absurd rfl hne
  | x :: xs, h, 0, j + 1, f, g, hi, hj, _, k, hk => by
    simp only [List.flatten_cons, List.nodup_append] at h
    simp only [List.getElem?_cons_zero, Option.some.injEq] at hi
    simp only [List.getElem?_cons_succ] at hj
    subst hi
    exact fun hg => h.2.2 k hk k (List.mem_flatten.2 ⟨g, List.mem_of_getElem? hj, hg⟩) rfl
  | x :: xs, h, i + 1, 0, f, g, hi, hj, _, k, hk => by
    simp only [List.flatten_cons, List.nodup_append] at h
    simp only [List.getElem?_cons_zero, Option.some.injEq] at hj
    simp only [List.getElem?_cons_succ] at hi
    subst hj
    exact fun hg => h.2.2 k hg k (List.mem_flatten.2 ⟨f, List.mem_of_getElem? hi, hk⟩) rfl
  | x :: xs, h, i + 1, j + 1, f, g, hi, hj, hne, k, hk => by
    simp only [List.flatten_cons, List.nodup_append] at h
    exact flatten_disj h.2.1 (by simpa using hi) (by simpa using hj) (by omega) k hk
theorem flatten_one : ∀ {fps : List (List Nat)} (h : fps.flatten.Nodup) {i : Nat} {f : List Nat}, fps[i]? = some f → f.Nodup
  | [], _, _, _, hi => by simp at hi
  | x :: xs, h, 0, f, hi => by
    simp only [List.flatten_cons, List.nodup_append] at h
    simp only [List.getElem?_cons_zero, Option.some.injEq] at hi
    subst hi
    exact h.1
  | x :: xs, h, i + 1, f, hi => by
    simp only [List.flatten_cons, List.nodup_append] at h
    exact flatten_one h.2.1 (by simpa using hi)

/-- a store into a block: the block, the cell, the other cells -/
theorem set_block {w : World} {b : Nat} {C : Array Value} {T : TypeId} (h : w.heap[b]? = some (.cells C T)) (o : Nat) (u : Value) : ∃ C', (w.setCell ⟨b, o, none⟩ u).heap[b]? = some (.cells C' T) := by
  simp [World.setCell, Array.getElem?_modify, h]
theorem set_at {w : World} {b o : Nat} {C : Array Value} {T : TypeId} (h : w.heap[b]? = some (.cells C T)) {v : Value} (hv : w.cell? ⟨b, o, none⟩ = some v) (u : Value) : (w.setCell ⟨b, o, none⟩ u).cell? ⟨b, o, none⟩ = some u := by
  simp only [World.cell?, h] at hv
  have hlt := (Array.getElem?_eq_some_iff.1 (by simpa using hv)).1
  simp [World.cell?, World.setCell, Array.getElem?_modify, h, Array.getElem?_setIfInBounds, hlt]
theorem set_off {w : World} {b o i : Nat} {C : Array Value} {T : TypeId} (h : w.heap[b]? = some (.cells C T)) (hi : i ≠ o) (u : Value) : (w.setCell ⟨b, o, none⟩ u).cell? ⟨b, i, none⟩ = w.cell? ⟨b, i, none⟩ := by
  simp [World.cell?, World.setCell, Array.getElem?_modify, h, Array.getElem?_setIfInBounds, Ne.symm hi]
theorem cells_thawed {w : World} {b : Nat} {C : Array Value} {T : TypeId} (h : w.heap[b]? = some (.cells C T)) (o : Nat) : w.frozen? ⟨b, o, none⟩ = false := by simp [World.frozen?, h]

/-- element j of a row was marked: its two numbers, then the trees below it -/
theorem RowFp.mark {w w1 : World} {T : TypeId} {bl off : Nat} {ks : List Tr} {fps : List (List Nat)} {C : Array Value} (hb : w.heap[bl]? = some (.cells C T)) (hr : RowFp w T bl off ks fps) (hn : (bl :: fps.flatten).Nodup)
    (j : Nat) (hj : j < ks.length) (x y : Int) (hx : I64 x) (hy : I64 y) (f : List Nat) (hf : fps[j]? = some f) (r : Value) (hc : w.cell? ⟨bl, off + j * 3 + 2, none⟩ = some r) (ks' : List Tr) (h1 : KidsFp w1 T ks' f r)
    (hbut : ButL f ((w.setCell ⟨bl, off + j * 3, none⟩ (.int .i64 x)).setCell ⟨bl, off + j * 3 + 1, none⟩ (.int .i64 y)) w1) :
    RowFp w1 T bl off (ks.set j (.node x y ks')) fps ∧ ∃ C', w1.heap[bl]? = some (.cells C' T) := by
  have hbl : bl < w.heap.size := cellsOf_lt hb
  simp only [List.nodup_cons] at hn
  obtain ⟨hn1, hn2⟩ := hn
  have hblf : bl ∉ f := fun hm => hn1 (List.mem_flatten.2 ⟨f, List.mem_of_getElem? hf, hm⟩)
  obtain ⟨C1, hC1⟩ := set_block hb (off + j * 3) (.int .i64 x)
  obtain ⟨C2, hC2⟩ := set_block hC1 (off + j * 3 + 1) (.int .i64 y)
  have hsz : ((w.setCell ⟨bl, off + j * 3, none⟩ (.int .i64 x)).setCell ⟨bl, off + j * 3 + 1, none⟩ (.int .i64 y)).heap.size = w.heap.size := by rw [size_setCell, size_setCell]
  have hblk : w1.heap[bl]? = ((w.setCell ⟨bl, off + j * 3, none⟩ (.int .i64 x)).setCell ⟨bl, off + j * 3 + 1, none⟩ (.int .i64 y)).heap[bl]? := hbut.block bl (by rw [hsz]; exact hbl) hblf
  have hcell : ∀ i, w1.cell? ⟨bl, i, none⟩ = ((w.setCell ⟨bl, off + j * 3, none⟩ (.int .i64 x)).setCell ⟨bl, off + j * 3 + 1, none⟩ (.int .i64 y)).cell? ⟨bl, i, none⟩ := fun i => World.cell?_of_block hblk
  have hsame : ∀ i, i ≠ off + j * 3 → i ≠ off + j * 3 + 1 → w1.cell? ⟨bl, i, none⟩ = w.cell? ⟨bl, i, none⟩ := fun i h1 h2 => by rw [hcell, set_off hC1 h2, set_off hb h1]
  refine ⟨RowFp.of _ _ _ ?_ ?_, C2, hblk.trans hC2⟩
  · rw [List.length_set]; exact (RowFp.at ks fps off j hj hr).1
  intro i hi
  rw [List.length_set] at hi
  obtain ⟨-, g, hg, a, b, c, ha, hbb, hcc, ht⟩ := RowFp.at ks fps off i hi hr
  refine ⟨g, hg, ?_⟩
  by_cases hij : i = j
  · subst hij
    rw [hf] at hg
    cases hg
    rw [hc] at hcc
    cases hcc
    refine ⟨.int .i64 x, .int .i64 y, r, ?_, ?_, ?_, ?_⟩
    · rw [hcell, set_off hC1 (by omega), set_at hb ha]
    · rw [hcell]
      exact set_at hC1 (v := b) (by rw [set_off hb (by omega)]; exact hbb) _
    · rw [hsame _ (by omega) (by omega)]; exact hc
    · simp only [List.getElem_set_self]
      exact trFp_iff.2 ⟨rfl, rfl, hx, hy, h1⟩
  · refine ⟨a, b, c, ?_, ?_, ?_, ?_⟩
    · rw [hsame _ (by omega) (by omega)]; exact ha
    · rw [hsame _ (by omega) (by omega)]; exact hbb
    · rw [hsame _ (by omega) (by omega)]; exact hcc
    · rw [List.getElem_set_ne (by omega)]
      refine TrFp.keep _ g a b c (fun k hk => ?_) ht
      have hkl := TrFp.lt _ g a b c ht k hk
      have hkb : k ≠ bl := fun e => hn1 (List.mem_flatten.2 ⟨g, List.mem_of_getElem? hg, e ▸ hk⟩)
      rw [hbut.block k (by rw [hsz]; exact hkl) (flatten_disj hn2 hg hf hij k hk)]
      exact (Below.heap_setCell _ _ _ _ hkb).trans (Below.heap_setCell _ _ _ _ hkb)
end Go.Proofs.Ytjpjikfmdaejeaa
/-
  THE LAWS' OWN COPY OF AN ARGUMENT (toExpr, toExprS), ITS BLOCKS ALL DISTINCT: the same trees, in new memory; nothing that was there is changed.
-/
namespace Go.Proofs.Ytjpjikfmdaejeaa
set_option linter.unusedVariables false
set_option linter.unusedSimpArgs false
open Go.RowKit

/-- trees whose blocks are distinct, from lo on -/
def Fresh (w : World) (lo : Nat) (ks : List Tr) (c : Value) : Prop := ∃ fp, KidsFp w 79 ks fp c ∧ fp.Nodup ∧ ∀ k ∈ fp, lo ≤ k
theorem Fresh.on {w : World} {lo : Nat} {ks : List Tr} {c : Value} (h : Fresh w lo ks c) : KidsOn w (Btw lo w.heap.size) ks c := by
  obtain ⟨fp, h1, h2, h3⟩ := h
  exact h1.on fun k hk => ⟨h3 k hk, h1.lt k hk⟩
theorem Fresh.mono {w w' : World} {lo lo' : Nat} {ks : List Tr} {c : Value} (h : Fresh w lo ks c) (hl : lo' ≤ lo) (hw : ∀ k, lo ≤ k → k < w.heap.size → w'.heap[k]? = w.heap[k]?) : Fresh w' lo' ks c := by
  obtain ⟨fp, h1, h2, h3⟩ := h
  exact ⟨fp, h1.keep fun k hk => hw k (h3 k hk) (h1.lt k hk), h2, fun k hk => Nat.le_trans hl (h3 k hk)⟩
theorem Fresh.next {w w' : World} {lo : Nat} {ks : List Tr} {c : Value} (h : Fresh w lo ks c) (hb : Below w.heap.size w w') : Fresh w' lo ks c := h.mono (Nat.le_refl _) fun k _ hk => hb.block k hk
theorem Fresh.setCell {w : World} {lo : Nat} {ks : List Tr} {c : Value} (h : Fresh w lo ks c) {a : Addr} (ha : a.block < lo) (u : Value) : Fresh (w.setCell a u) lo ks c :=
  h.mono (Nat.le_refl _) fun k hk _ => Below.heap_setCell _ _ _ _ (by omega)

/-- a call has handed back these trees in new memory, all blocks distinct -/
def FreshKids (ks : List Tr) (w : World) (e : Ending) (w' : World) : Prop := ∃ v, e = .returned v ∧ Fresh w' w.heap.size ks v ∧ Below w.heap.size w w'
/-- .. one tree -/
def FreshTr (o n : Int) (ks : List Tr) (w : World) (e : Ending) (w' : World) : Prop := ∃ v, e = .returned (.agg #[.int .i64 o, .int .i64 n, v]) ∧ Fresh w' w.heap.size ks v ∧ Below w.heap.size w w'

/-- what holds of the copy of a list behind k rounds -/
def FToRel (ks : List Tr) (w : World) (k : Nat) (wr : World) : Prop :=
  ∃ (f : Nat → Value) (fps : List (List Nat)), fps.length = k ∧ wr.rowIs w.heap.size 79 (ks.length * 3) f ∧ (∀ j (_ : j < k) (hj : j < ks.length), ∃ g, fps[j]? = some g ∧ TrFp wr 79 ks[j] g (f (j * 3)) (f (j * 3 + 1)) (f (j * 3 + 2))) ∧ fps.flatten.Nodup ∧ (∀ b ∈ fps.flatten, w.heap.size < b ∧ b < wr.heap.size) ∧ Below w.heap.size w wr

theorem ftoRel_start (ks : List Tr) (w : World) (C : Array Value) (h : C.size = ks.length * 3) : FToRel ks w 0 (w.alloc (.cells C 79)) := by
  refine ⟨fun i => C.getD i undef, [], rfl, ⟨C, Deep.blk_alloc_new _ _, h, fun i hi => ?_⟩, fun j hj => absurd hj (by omega), by simp, by simp, (Below.refl _ _).alloc (Nat.le_refl _) _⟩
  simp [Array.getElem?_eq_getElem (h ▸ hi : i < C.size), Array.getD, (h ▸ hi : i < C.size)]

theorem ftoRel_step (ks : List Tr) (w wr w1 : World) (k : Nat) (hk : k < ks.length) (h : FToRel ks w k wr) (v : Value) (hb : Below wr.heap.size wr w1) (hv : Fresh w1 wr.heap.size (ks[k]).kids v) (ho : I64 (ks[k]).op) (hn : I64 (ks[k]).num) :
    FToRel ks w (k + 1) (((w1.setCell ⟨w.heap.size, k * 3, none⟩ (.int .i64 (ks[k]).op)).setCell ⟨w.heap.size, k * 3 + 1, none⟩ (.int .i64 (ks[k]).num)).setCell ⟨w.heap.size, k * 3 + 2, none⟩ v) := by
  obtain ⟨f, fps, hfl, hr, ht, hnd, hfb, hbw⟩ := h
  obtain ⟨fp, v1, v2, v3⟩ := hv
  have hlt := hr.lt
  have hr1 : w1.rowIs w.heap.size 79 (ks.length * 3) f := hr.of_block (hb.block _ hlt)
  have hsz := hb.size
  have keep : ∀ b, b ≠ w.heap.size → (((w1.setCell ⟨w.heap.size, k * 3, none⟩ (.int .i64 (ks[k]).op)).setCell ⟨w.heap.size, k * 3 + 1, none⟩ (.int .i64 (ks[k]).num)).setCell ⟨w.heap.size, k * 3 + 2, none⟩ v).heap[b]? = w1.heap[b]? :=
    fun b hne => ((Below.heap_setCell _ _ _ _ hne).trans (Below.heap_setCell _ _ _ _ hne)).trans (Below.heap_setCell _ _ _ _ hne)
  have hs3 : k * 3 + 2 < ks.length * 3 := by omega
  refine ⟨_, fps ++ [fp], by simp [hfl], ((hr1.set (k * 3) _).set (k * 3 + 1) _).set (k * 3 + 2) _, fun j hj hjl => ?_, ?_, ?_, ?_⟩
  · by_cases hjk : j = k
    · subst hjk
      have : TrFp w1 79 ks[j] fp (.int .i64 (ks[j]).op) (.int .i64 (ks[j]).num) v := trFp_iff.2 ⟨rfl, rfl, ho, hn, v1⟩
      have h2 := TrFp.keep _ _ _ _ _ (fun b hbm => keep b (by have := v3 b hbm; omega)) this
      refine ⟨fp, by rw [← hfl]; simp, ?_⟩
      simpa using h2
    · obtain ⟨g, hg, h0⟩ := ht j (by omega) hjl
      have hgm : ∀ b ∈ g, w.heap.size < b ∧ b < wr.heap.size := fun b hbm => hfb b (List.mem_flatten.2 ⟨g, List.mem_of_getElem? hg, hbm⟩)
      have h2 := TrFp.keep _ _ _ _ _ (fun b hbm => (keep b (by have := hgm b hbm; omega)).trans (hb.block b (hgm b hbm).2)) h0
      have e1 : ∀ m, m < 3 → j * 3 + m ≠ k * 3 + 2 ∧ j * 3 + m ≠ k * 3 + 1 ∧ j * 3 + m ≠ k * 3 := fun m hm => by omega
      have a0 := e1 0 (by omega)
      have a1 := e1 1 (by omega)
      have a2 := e1 2 (by omega)
      simp only [Nat.add_zero] at a0
      refine ⟨g, by rw [List.getElem?_append_left (by omega)]; exact hg, ?_⟩
      simpa [a0, a1, a2] using h2
  · rw [List.flatten_append, List.nodup_append]
    refine ⟨hnd, by simpa using v2, fun x hx y hy e => ?_⟩
    have h1 := (hfb x hx).2
    have h2 := v3 y (by simpa using hy)
    omega
  · intro b hbm
    simp only [size_setCell]
    simp only [List.flatten_append, List.mem_append] at hbm
    rcases hbm with hbm | hbm
    · have := hfb b hbm; omega
    · have hbm' : b ∈ fp := by simpa using hbm
      have h1 := v3 b hbm'
      have h2 := v1.lt b hbm'
      omega
  · exact (((hbw.trans (hb.mono (Nat.le_of_lt hlt))).setCell (by simp) _).setCell (by simp) _).setCell (by simp) _

theorem ftoRel_end (ks : List Tr) (w wr : World) (h : FToRel ks w ks.length wr) (hl : ks.length ≤ 1048576) : FreshKids ks w (.returned (.slice (some ⟨w.heap.size, 0, none⟩) ks.length ks.length)) wr := by
  obtain ⟨f, fps, hfl, hr, ht, hnd, hfb, hbw⟩ := h
  have hlt := hr.lt
  obtain ⟨C, hC, _, _⟩ := id hr
  refine ⟨_, rfl, ⟨w.heap.size :: fps.flatten, ⟨_, _, rfl, Nat.le_refl _, by unfold maxLen; omega, Or.inr ⟨_, _, C, fps, rfl, hC, rfl, RowFp.of _ _ _ hfl fun i hi => ?_⟩⟩, ?_, ?_⟩, hbw⟩
  · obtain ⟨g, hg, h1⟩ := ht i hi hi
    refine ⟨g, hg, f (i * 3), f (i * 3 + 1), f (i * 3 + 2), ?_, ?_, ?_, h1⟩
    · simpa using hr.cell (i := i * 3) (by omega)
    · simpa [Nat.zero_add] using hr.cell (i := i * 3 + 1) (by omega)
    · simpa [Nat.zero_add] using hr.cell (i := i * 3 + 2) (by omega)
  · rw [List.nodup_cons]
    exact ⟨fun hm => by have := (hfb _ hm).1; omega, hnd⟩
  · intro b hbm
    rw [List.mem_cons] at hbm
    rcases hbm with rfl | hbm
    · exact Nat.le_refl _
    · have := (hfb b hbm).1; omega

end Go.Proofs.Ytjpjikfmdaejeaa
/-
  TREES WHOSE BLOCKS ARE DISTINCT LIE IN PLAIN BLOCKS.
-/
namespace Go.Proofs.Ytjpjikfmdaejeaa
set_option linter.unusedVariables false
set_option linter.unusedSimpArgs false
open Go.RowKit

mutual
theorem TrFp.plain {w : World} {T : TypeId} : ∀ (t : Tr) (fp : List Nat) (a b c : Value), TrFp w T t fp a b c → ∀ k ∈ fp, Pl w k
  | .node op n ks, fp, a, b, c, h => by
    simp only [TrFp] at h
    obtain ⟨-, -, -, -, ad, cap, -, -, -, h5⟩ := h
    rcases h5 with ⟨-, rfl⟩ | ⟨bl, off, C, fps, -, hb, rfl, r⟩
    · simp
    · intro k hk
      rw [List.mem_cons] at hk
      rcases hk with rfl | hk
      · exact ⟨cellsOf_lt hb, C, T, hb⟩
      · obtain ⟨f, hf, hkf⟩ := List.mem_flatten.1 hk
        exact RowFp.plain bl off ks fps r f hf k hkf
theorem RowFp.plain {w : World} {T : TypeId} (bl off : Nat) : ∀ (ks : List Tr) (fps : List (List Nat)), RowFp w T bl off ks fps → ∀ f ∈ fps, ∀ k ∈ f, Pl w k
  | [], fps, h => by
    simp only [RowFp] at h
    subst h
    simp
  | t :: ts, fps, h => by
    simp only [RowFp] at h
    obtain ⟨f, fs, rfl, ⟨a, b, c, -, -, -, ht⟩, hr⟩ := h
    intro g hg k hk
    rw [List.mem_cons] at hg
    rcases hg with rfl | hg
    · exact TrFp.plain t _ a b c ht k hk
    · exact RowFp.plain bl (off + 3) ts fs hr g hg k hk
end
theorem KidsFp.plain {w : World} {T : TypeId} {ks : List Tr} {fp : List Nat} {c : Value} (h : KidsFp w T ks fp c) : ∀ k ∈ fp, Pl w k :=
  TrFp.plain (.node 0 0 ks) fp _ _ c (trFp_iff.2 ⟨rfl, rfl, by simp [I64], by simp [I64], h⟩)
theorem Fresh.inP {w : World} {lo : Nat} {ks : List Tr} {c : Value} (h : Fresh w lo ks c) : InP w ks c := by
  obtain ⟨fp, h1, -, -⟩ := h
  exact h1.on h1.plain
end Go.Proofs.Ytjpjikfmdaejeaa
/-
  LISTS OF TREES THAT A CALL BUILDS BY append: the row that it owns, and the trees elsewhere; append as one step of a region that draws its order, with where the new row lies.
-/
namespace Go.Proofs.Ytjpjikfmdaejeaa
set_option linter.unusedVariables false
set_option linter.unusedSimpArgs false
open Go.RowKit

/-- a list of trees that a call has built by append: the row is its own, the trees lie elsewhere, all from lo on -/
def OwnTr (w : World) (lo : Nat) (ts : List Tr) (v : Value) : Prop :=
  ∃ xs, w.ownsRow lo 79 3 v ts.length xs ∧ ∀ j (hj : j < ts.length), ∃ a b c, xs[j * 3]? = some a ∧ xs[j * 3 + 1]? = some b ∧ xs[j * 3 + 2]? = some c ∧ TrOn w (fun k => lo ≤ k ∧ k < w.heap.size ∧ some k ≠ v.ownBlock) ts[j] a b c

theorem OwnTr.nil (w : World) (lo : Nat) : OwnTr w lo [] (.slice none 0 0) := ⟨[], World.ownsRow_nil w lo _ _, fun j hj => absurd hj (by simp)⟩

/-- it stays where all blocks from lo on stay -/
theorem OwnTr.next {w w' : World} {lo : Nat} {ts : List Tr} {v : Value} (h : OwnTr w lo ts v) (hsz : w.heap.size ≤ w'.heap.size) (hb : ∀ k, lo ≤ k → k < w.heap.size → w'.heap[k]? = w.heap[k]?) : OwnTr w' lo ts v := by
  obtain ⟨xs, h1, h2⟩ := h
  refine ⟨xs, ⟨h1.1, ?_⟩, fun j hj => ?_⟩
  · rcases h1.2 with h | ⟨g, cap, cur, rfl, hg, hh, r⟩
    · exact Or.inl h
    · exact Or.inr ⟨g, cap, cur, rfl, hg, (hb g hg (Array.getElem?_eq_some_iff.1 hh).1).trans hh, r⟩
  · obtain ⟨a, b, c, e1, e2, e3, e4⟩ := h2 j hj
    exact ⟨a, b, c, e1, e2, e3, e4.mono (fun k hk => ⟨hk.1, Nat.lt_of_lt_of_le hk.2.1 hsz, hk.2.2⟩) (fun k hk => hb k hk.1 hk.2.1)⟩

/-- one tree more -/
theorem OwnTr.step {w w' : World} {lo : Nat} {ts : List Tr} {v v' : Value} {t : Tr} {a b c : Value} (h : OwnTr w lo ts v) (xs : List Value) (hx : w.ownsRow lo 79 3 v ts.length xs) (hlo : lo ≤ w.heap.size)
    (ht : ∀ j (hj : j < ts.length), ∃ a b c, xs[j * 3]? = some a ∧ xs[j * 3 + 1]? = some b ∧ xs[j * 3 + 2]? = some c ∧ TrOn w (fun k => lo ≤ k ∧ k < w.heap.size ∧ some k ≠ v.ownBlock) ts[j] a b c)
    (hn : TrOn w (fun k => lo ≤ k ∧ k < w.heap.size ∧ some k ≠ v.ownBlock) t a b c)
    (hown : w'.ownsRow lo 79 3 v' (ts.length + 1) (xs ++ [a, b, c])) (hg : w.grownBy w' v.ownBlock) (hw : v'.ownBlock = v.ownBlock ∨ ∃ g, v'.ownBlock = some g ∧ w.heap.size ≤ g) : OwnTr w' lo (ts ++ [t]) v' := by
  have hlen := hx.1
  have keep : ∀ (s : Tr) (x y z : Value), TrOn w (fun k => lo ≤ k ∧ k < w.heap.size ∧ some k ≠ v.ownBlock) s x y z → TrOn w' (fun k => lo ≤ k ∧ k < w'.heap.size ∧ some k ≠ v'.ownBlock) s x y z := by
    intro s x y z hs
    refine hs.mono (fun k hk => ⟨hk.1, Nat.lt_of_lt_of_le hk.2.1 hg.size, ?_⟩) (fun k hk => hg.block k hk.2.1 hk.2.2)
    rcases hw with hw | ⟨g, hw, hge⟩
    · rw [hw]; exact hk.2.2
    · rw [hw]; intro e; simp only [Option.some.injEq] at e; have := hk.2.1; omega
  refine ⟨xs ++ [a, b, c], by simpa using hown, fun j hj => ?_⟩
  by_cases hjl : j < ts.length
  · obtain ⟨x, y, z, e1, e2, e3, e4⟩ := ht j hjl
    have l1 : j * 3 + 2 < xs.length := by omega
    refine ⟨x, y, z, ?_, ?_, ?_, ?_⟩
    · rw [List.getElem?_append_left (by omega)]; exact e1
    · rw [List.getElem?_append_left (by omega)]; exact e2
    · rw [List.getElem?_append_left (by omega)]; exact e3
    · rw [List.getElem_append_left hjl]; exact keep _ _ _ _ e4
  · have hj' : j = ts.length := by simp at hj; omega
    subst hj'
    refine ⟨a, b, c, ?_, ?_, ?_, ?_⟩
    · rw [List.getElem?_append_right (by omega)]; simp [hlen]
    · rw [List.getElem?_append_right (by omega)]; simp [hlen]
    · rw [List.getElem?_append_right (by omega)]; simp [hlen]
    · simpa using keep _ _ _ _ hn

/-- the list, as trees in memory -/
theorem OwnTr.kids {w : World} {lo : Nat} {ts : List Tr} {v : Value} (h : OwnTr w lo ts v) : KidsOn w (Btw lo w.heap.size) ts v := by
  obtain ⟨xs, h1, h2⟩ := h
  rcases h1.2 with ⟨rfl, h0⟩ | ⟨g, cap, cur, rfl, hg, hh, hn, hc, hs, htk⟩
  · obtain rfl : ts = [] := List.eq_nil_of_length_eq_zero h0
    exact ⟨none, 0, rfl, Nat.le_refl _, by simp [maxLen], Or.inl rfl⟩
  · refine ⟨_, cap, rfl, hn, hc, Or.inr ⟨g, 0, rfl, ⟨hg, (Array.getElem?_eq_some_iff.1 hh).1⟩, RowOn.of _ _ fun i hi => ?_⟩⟩
    obtain ⟨a, b, c, e1, e2, e3, e4⟩ := h2 i hi
    refine ⟨a, b, c, ?_, ?_, ?_, e4.mono (fun k hk => ⟨hk.1, hk.2.1⟩) (fun _ _ => rfl)⟩
    · rw [Nat.zero_add, h1.cellAt (i * 3) (by omega)]; exact e1
    · rw [Nat.zero_add, h1.cellAt (i * 3 + 1) (by omega)]; exact e2
    · rw [Nat.zero_add, h1.cellAt (i * 3 + 2) (by omega)]; exact e3
end Go.Proofs.Ytjpjikfmdaejeaa
