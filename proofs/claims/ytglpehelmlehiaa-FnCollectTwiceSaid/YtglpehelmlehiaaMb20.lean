/-
  PLAIN: COLLECTING IS FINAL. A collected graph has no indirection but those of a circle, and each of these stands for itself. No program is named here.
-/
import Derived.Test.YtglpehelmlehiaaMb18
import Derived.Test.YtglpehelmlehiaaMb11
import Derived.Test.YtglpehelmlehiaaMb10
import Derived.Test.YtglpehelmlehiaaMb14
import Derived.Test.YtglpehelmlehiaaMb8
import Derived.Laws.OwnMore
import Derived.Test.YtglpehelmlehiaaMb16
import Derived.Test.YtglpehelmlehiaaMb19
namespace Go.Proofs.Ytglpehelmlehiaa
set_option linter.unusedVariables false
set_option linter.unusedSimpArgs false

theorem short_opV {g : List Ce} {a : Nat} (ha : a < g.length) : opAt (shortG g) a = opAt g a := by
  unfold opAt
  rw [getD_at _ _ _ (by rw [shortG_len]; exact ha), getD_at _ _ _ ha, shortG_at g a ha]; rfl
theorem short_kidsV {g : List Ce} {a : Nat} (ha : a < g.length) : kidsN (shortG g) a = (kidsN g a).map (skipN g) := by
  unfold kidsN
  rw [getD_at _ _ _ (by rw [shortG_len]; exact ha), getD_at _ _ _ ha, shortG_at g a ha]
  show (((g[a].kids.map Int.toNat).map fun k => (skipN g k : Int))).map Int.toNat = _
  rw [List.map_map]
  exact List.map_congr_left fun k _ => by simp
/-- an indirection past which there is no going stands in a circle -/
theorem skip_badV {g : List Ce} (hg : graphB g 6 = true) {y : Nat} (hy : y < g.length) (ho : opAt g (skipN g y) = 11) : followN g g.length (skipN g y) = none := by
  cases hf : followN g g.length y with
  | some b =>
    have e : skipN g y = b := by unfold skipN; rw [hf]; rfl
    rw [e] at ho
    exact absurd ho (followN_lt hg _ _ _ hy hf).2
  | none =>
    have e : skipN g y = y := by unfold skipN; rw [hf]; rfl
    rw [e]; exact hf
/-- the next cell of a circle is one of it -/
theorem bad_nextV {g : List Ce} (hg : graphB g 6 = true) {x : Nat} (hx : x < g.length) (ho : opAt g x = 11) (hf : followN g g.length x = none) : nxt g x < g.length ∧ kidsN g x = [nxt g x] ∧ followN g g.length (nxt g x) = none ∧ opAt g (nxt g x) = 11 ∧ skipN g (nxt g x) = nxt g x := by
  have ho2 := ho
  unfold opAt at ho2
  rw [getD_at _ _ _ hx] at ho2
  obtain ⟨k, hk1, hk2, hk3⟩ := ind_kid hg x hx ho2
  have h1 := follow_enough hg x hx
  rw [hf, followN, if_pos ho] at h1
  refine ⟨by rw [hk3]; exact hk2, ?_, h1, ?_, by unfold skipN; rw [h1]; rfl⟩
  · unfold kidsN
    rw [getD_at _ _ _ hx, hk1, hk3]; rfl
  · have := followN_none _ _ h1 0 (by omega)
    exact this
section
variable {g : List Ce} {rs : List Nat}
/-- what is collected: the order, and the graph -/
theorem coll_of (hg : graphB g 6 = true) (hr : ∀ x ∈ rs, x < g.length) : CpOf (shortG g) (orderG (shortG g) (rs.map (skipN g))) (copyG (shortG g) (rs.map (skipN g))) :=
  cpOf (shortG_valid hg) fun x hx => by
    rw [List.mem_map] at hx
    obtain ⟨a, ha, rfl⟩ := hx
    rw [shortG_len]
    exact skip_lt hg (hr a ha)
theorem coll_skip (hg : graphB g 6 = true) (hr : ∀ x ∈ rs, x < g.length) : ∀ x ∈ orderG (shortG g) (rs.map (skipN g)), ∃ y, y < g.length ∧ x = skipN g y := by
  have c := coll_of hg hr
  have key : ∀ x ∈ orderG (shortG g) (rs.map (skipN g)), x < g.length ∧ ∃ y, y < g.length ∧ x = skipN g y := by
    unfold orderG
    refine ordN_all (P := fun x => x < g.length ∧ ∃ y, y < g.length ∧ x = skipN g y) (fun a ha k hk => ?_) _ _ _ fun x hx => ?_
    · rw [short_kidsV ha.1, List.mem_map] at hk
      obtain ⟨y, hy, rfl⟩ := hk
      have := kidsN_lt hg a ha.1 y hy
      exact ⟨skip_lt hg this, y, this, rfl⟩
    · rcases visitL_of _ _ _ hx with h1 | h1
      · simp at h1
      · rw [List.mem_map] at h1
        obtain ⟨y, hy, rfl⟩ := h1
        exact ⟨skip_lt hg (hr y hy), y, hr y hy, rfl⟩
  exact fun x hx => (key x hx).2
theorem coll_bad (hg : graphB g 6 = true) {o : List Nat} {h : List Ce} (c : CpOf (shortG g) o h) : ∀ (n x : Nat), x ∈ o → opAt g x = 11 → followN g g.length x = none → followN h n (posN o x) = none
  | 0, _, _, _, _ => rfl
  | n + 1, x, hx, ho, hf => by
    have hxl : x < g.length := by have := c.lt x hx; rwa [shortG_len] at this
    obtain ⟨b1, b2, b3, b4, b5⟩ := bad_nextV hg hxl ho hf
    have hk : kidsN (shortG g) x = [nxt g x] := by rw [short_kidsV hxl, b2, List.map_cons, b5]; rfl
    have hz : nxt g x ∈ o := c.cl x hx _ (by rw [hk]; simp)
    have hn : nxt h (posN o x) = posN o (nxt g x) := by
      unfold nxt kid0
      rw [c.at hx]
      show (((kidsN (shortG g) x).map fun k => (posN o k : Int)).getD 0 0).toNat = _
      rw [hk]
      simp [nxt, kid0]
    rw [followN, if_pos (by rw [c.op hx, short_opV hxl]; exact ho), hn]
    exact coll_bad hg c n _ hz b4 b3
theorem coll_fix (hg : graphB g 6 = true) {o : List Nat} {h : List Ce} (c : CpOf (shortG g) o h) (hs : ∀ x ∈ o, ∃ y, y < g.length ∧ x = skipN g y) {x : Nat} (hx : x ∈ o) : skipN h (posN o x) = posN o x := by
  have hxl : x < g.length := by have := c.lt x hx; rwa [shortG_len] at this
  by_cases ho : opAt g x = 11
  · obtain ⟨y, hy, e⟩ := hs x hx
    have hf : followN g g.length x = none := by rw [e]; exact skip_badV hg hy (by rw [← e]; exact ho)
    unfold skipN
    rw [coll_bad hg c _ _ hx ho hf]; rfl
  · have hp := posN_lt o x hx
    have hl : h.length = o.length := by rw [c.eq, List.length_map]
    obtain ⟨m, hm⟩ : ∃ m, h.length = m + 1 := ⟨h.length - 1, by omega⟩
    unfold skipN
    rw [hm, followN, if_neg (by rw [c.op hx, short_opV hxl]; exact ho)]; rfl
theorem coll_short (hg : graphB g 6 = true) {o : List Nat} {h : List Ce} (c : CpOf (shortG g) o h) (hs : ∀ x ∈ o, ∃ y, y < g.length ∧ x = skipN g y) : shortG h = h := by
  unfold shortG
  conv => rhs; rw [← List.map_id h]
  refine List.map_congr_left fun ce hce => ?_
  have hce2 := hce
  rw [c.eq, List.mem_map] at hce2
  obtain ⟨x, hx, rfl⟩ := hce2
  show shortC h (cpCell (shortG g) o x) = cpCell (shortG g) o x
  unfold shortC cpCell
  congr 1
  rw [List.map_map, List.map_map]
  refine List.map_congr_left fun k hk => ?_
  have := coll_fix hg c hs (c.cl x hx k hk)
  simp [this]
/-- collecting is final -/
theorem coll_twice (hg : graphB g 6 = true) (hr : ∀ x ∈ rs, x < g.length) :
    let h := copyG (shortG g) (rs.map (skipN g)); let t := topsG (shortG g) (rs.map (skipN g))
    copyG (shortG h) (t.map (skipN h)) = h ∧ topsG (shortG h) (t.map (skipN h)) = t := by
  have c := coll_of hg hr
  have hs := coll_skip hg hr
  have hr2 : ∀ x ∈ rs.map (skipN g), x < (shortG g).length := fun x hx => by
    rw [List.mem_map] at hx
    obtain ⟨a, ha, rfl⟩ := hx
    rw [shortG_len]
    exact skip_lt hg (hr a ha)
  have hrt := order_root (shortG_valid hg) hr2
  obtain ⟨t1, t2, -⟩ := copy_twice (shortG_valid hg) hr2
  intro h t
  have e1 : shortG h = h := coll_short hg c hs
  have e2 : t.map (skipN h) = t := by
    conv => rhs; rw [← List.map_id t]
    refine List.map_congr_left fun a ha => ?_
    have ha2 : a ∈ (rs.map (skipN g)).map (posN (orderG (shortG g) (rs.map (skipN g)))) := ha
    rw [List.mem_map] at ha2
    obtain ⟨x, hx, rfl⟩ := ha2
    exact coll_fix hg c hs (hrt x hx)
  rw [e1, e2]
  exact ⟨t1, t2⟩
end
theorem root_coll {g : List Ce} {X : List Int} (h : rootB g X = true) : rootB (collO g X).1 (plI (collO g X).2) = true := by
  have hg := (rootB_iff.1 h).1
  have hr := root_lt h
  have hr2 : ∀ x ∈ (natL X).map (skipN g), x < (shortG g).length := fun x hx => by
    rw [List.mem_map] at hx
    obtain ⟨a, ha, rfl⟩ := hx
    rw [shortG_len]
    exact skip_lt hg (hr a ha)
  rw [collO_yes h]
  refine rootB_iff.2 ⟨copyG_okV (shortG_valid hg) hr2, ?_, ?_⟩
  · rw [plI_length]
    unfold topsG
    rw [List.length_map, List.length_map, natL_len]
    exact (rootB_iff.1 h).2.1
  · rw [List.all_eq_true]
    intro x hx
    unfold plI topsG at hx
    rw [List.mem_map] at hx
    obtain ⟨a, ha, rfl⟩ := hx
    rw [List.mem_map] at ha
    obtain ⟨b, hb, rfl⟩ := ha
    have := posN_lt _ _ (order_root (shortG_valid hg) hr2 b hb)
    rw [copyG_len]
    unfold isAt
    simp
    omega
theorem collO_twice {g : List Ce} {X : List Int} (h : rootB g X = true) : collO (collO g X).1 (plI (collO g X).2) = collO g X := by
  have hr := root_coll h
  obtain ⟨t1, t2⟩ := coll_twice (rootB_iff.1 h).1 (root_lt h)
  rw [collO_yes hr, nat_pl, collO_yes h]
  show (_, _) = (_, _)
  rw [t1, t2]
end Go.Proofs.Ytglpehelmlehiaa
/-
  THE PROGRAM's standsFor; nothing that was there is changed.
-/
namespace Go.Proofs.Ytglpehelmlehiaa
set_option linter.unusedVariables false
set_option linter.unusedSimpArgs false
open Go.RowKit

/-- what standsFor answers -/
def folO (o : Option Nat) : Int := match o with | some b => (b : Int) | none => 0

set_option maxHeartbeats 800000 in
theorem standsFor_calls (g : List Ce) (a : Nat) (v : Value) (w : World) (hk : CIn w g v) (hg : ∃ defs, graphB g defs = true) (ha : a < g.length) :
    Calls Try.prog 76 #[v, .int .i64 (a : Int)] w fun e w' => e = .returned (.tuple #[.int .i64 (folO (followN g g.length a)), .bool (followN g g.length a).isSome]) ∧ Below w.heap.size w w' := by
  have HK : Hid (CIn w g v) := hk
  obtain ⟨ad, cap, rfl, hl, hm, -⟩ := hk
  unfold maxLen at hm
  obtain ⟨defs, hg⟩ := hg
  have HG : Hid (graphB g defs = true) := hg
  have h400 : g.length ≤ 400 := graphB_len hg
  clear hg
  go_enter Try.func76, Try.ntmps76
  go_wp2_with fail
  go_loopw [1, 8] (fun at' i wr => ∃ k b : Nat, k ≤ g.length ∧ i = .int .i64 k ∧ at' = .int .i64 (b : Int) ∧ b < g.length ∧ followN g g.length a = followN g (g.length - k) b ∧ Below w.heap.size w wr) (fun _ i _ => g.length - (intOf i).toNat)
  case atStart => exact ⟨0, a, Nat.zero_le _, rfl, rfl, ha, rfl, Below.refl _ _⟩
  case round =>
    obtain ⟨k, b, hk, rfl, rfl, hbl, hf, hb⟩ := hrel
    have HF : Hid (followN g g.length a = followN g (g.length - k) b) := hf
    have HB : Hid (Below w.heap.size w wr) := hb
    clear hf
    by_cases hlt : k < g.length
    · have HLT : Hid (k < g.length) := hlt
      obtain ⟨bl, off, r, rfl, c0, c1, c2, -, -, hkk⟩ := (HK.out.next hb).at b hbl
      clear hb
      by_cases ho : g[b].op = 11
      · obtain ⟨y, hy1, hy2, hy3⟩ := ind_kid HG.out b hbl ho
        have HV : Hid (followN g g.length a = followN g (g.length - (k + 1)) y) := by
          have h1 := HF.out
          rw [show g.length - k = (g.length - (k + 1)) + 1 by omega] at h1
          exact h1.trans ((followN_ind (by rw [opAt_at b hbl]; exact ho)).trans (by rw [hy3]))
        have t1 : (g[b].op != 11) = false := by simp [ho]
        obtain ⟨ad2, cap2, rfl, hl2, hm2, -⟩ := id hkk
        obtain ⟨bl2, off2, rfl, d0⟩ := hkk.at 0 (by rw [hy1]; simp)
        have hlen1 : g[b].kids.length = 1 := by rw [hy1]; rfl
        have hkid : g[b].kids[0]'(by omega) = (y : Int) := by simp [hy1]
        rw [hkid, Nat.add_zero] at d0
        rw [hlen1] at c2
        clear ho hy1 hy3 hkid hlen1 hkk hl2 hm2
        go_wp2_with fail
        go_roundw
        case rel => exact ⟨k + 1, y, by have := HLT.out; omega, by go_num, rfl, hy2, HV.out, HB.out⟩
        case measure => have := HLT.out; simp [intOf]; omega
      · have HV : Hid (followN g g.length a = some b) := by
          have h1 := HF.out
          rw [show g.length - k = (g.length - k - 1) + 1 by omega] at h1
          exact h1.trans (followN_stop (by rw [opAt_at b hbl]; exact ho))
        have t1 : (g[b].op != 11) = true := by simpa using ho
        clear ho hkk
        go_wp2_with fail
        go_ret2
        exact ⟨ret_ib (by rw [HV.out]; rfl) (by rw [HV.out]; rfl), HB.out⟩
    · have HV : Hid (followN g g.length a = none) := by
        have := HF.out
        rw [show g.length - k = 0 by omega] at this
        exact this
      clear hb
      go_wp2_with fail
      go_ret2
      exact ⟨ret_ib (by rw [HV.out]; rfl) (by rw [HV.out]; rfl), HB.out⟩

end Go.Proofs.Ytglpehelmlehiaa
/-
  THE PROGRAM's pastInds: cells past indirections, in a new row.
-/
namespace Go.Proofs.Ytglpehelmlehiaa
set_option linter.unusedVariables false
set_option linter.unusedSimpArgs false
open Go.RowKit

theorem skip_some {g : List Ce} {a b : Nat} (h : followN g g.length a = some b) : skipN g a = b := by unfold skipN; rw [h]; rfl
theorem skip_none {g : List Ce} {a : Nat} (h : followN g g.length a = none) : skipN g a = a := by unfold skipN; rw [h]; rfl

set_option maxRecDepth 100000 in
set_option maxHeartbeats 1600000 in
theorem pastInds_calls (g : List Ce) (ls : List Nat) (v lv : Value) (w : World) (hk : CIn w g v) (hg : graphB g 6 = true) (hlv : IIn w (plI ls) lv) (hll : ∀ x ∈ ls, x < g.length) (hz : ls.length ≤ 1048576) :
    Calls Try.prog 67 #[v, lv] w (NewStk (ls.map (skipN g)) w) := by
  have HK := mkHid hk
  have HG := mkHid hg
  have HLV := mkHid hlv
  have HLL := mkHid hll
  obtain ⟨ad, cap, rfl, -, -, -⟩ := hk
  obtain ⟨adl, capl, rfl, hlc, hlm⟩ := pl_form hlv
  unfold maxLen at hlm
  clear hg hlv hll
  have HST : Hid (Stk w w.heap.size ((ls.take 0).map (skipN g)) (.slice none 0 0)) := World.ownsRow_nil _ _ _ _
  go_enter Try.func67, Try.ntmps67
  go_wp2_with fail
  go_loopw [5, 12] (fun pv z wr => ∃ k : Nat, k ≤ ls.length ∧ z = .int .i64 k ∧ Stk wr w.heap.size ((ls.take k).map (skipN g)) pv ∧ Below w.heap.size w wr) (fun _ z _ => ls.length - (intOf z).toNat)
  case atStart => exact ⟨0, Nat.zero_le _, rfl, HST.out, Below.refl _ _⟩
  case round =>
    obtain ⟨k, hk, rfl, hst, hb⟩ := hrel
    have HS := mkHid hst
    have HB : Hid (Below w.heap.size w wr) := hb
    have hsw := hb.size
    have hjl : ((ls.take k).map (skipN g)).length = k := by rw [List.length_map, List.length_take]; omega
    have HJL := mkHid hjl
    obtain ⟨adp, capp, rfl⟩ : ∃ ad cap, u5 = .slice ad k cap := by obtain ⟨x, y, e⟩ := hst.len; rw [hjl] at e; exact ⟨x, y, e⟩
    clear hst hjl
    by_cases hlt : k < ls.length
    · obtain ⟨bl, off, x, rfl, hbl, hx, hxm, d0w⟩ := pl_at HLV.out k hlt
      have d0 := (hb.cell (p := ⟨bl, off + k, none⟩) hbl).trans d0w
      have hxl := HLL.out x hxm
      have HX := mkHid hx
      clear hb hx hxm d0w
      go_wp2_with fail
      refine (standsFor_calls g x _ _ (HK.out.next HB.out) ⟨6, HG.out⟩ hxl).mono ?_
      rintro e w1 ⟨rfl, hb1⟩
      have HB1 : Hid (Below w.heap.size w w1) := HB.out.trans (hb1.mono HB.out.size)
      have HS1 : Hid (Stk w1 w.heap.size ((ls.take k).map (skipN g)) (.slice adp k capp)) := HS.out.next hb1
      have hzw := HB1.out.size
      obtain ⟨m, hm⟩ : ∃ m, m = skipN g x := ⟨_, rfl⟩
      have HM := mkHid hm
      have HS3 : Hid (Stk (w1.alloc (.cells #[.int .i64 (m : Int)] 3)) w.heap.size ((ls.take k).map (skipN g)) (.slice adp k capp)) := HS1.out.alloc _
      have HK3 : Hid (IIn (w1.alloc (.cells #[.int .i64 (m : Int)] 3)) [(m : Int)] (.slice (some ⟨w1.heap.size, 0, none⟩) 1 1)) := one_in w1 m
      have HLO : Hid (w.heap.size ≤ (w1.alloc (.cells #[.int .i64 (m : Int)] 3)).heap.size) := by rw [Hid, Deep.nblk_alloc]; omega
      clear hb1 d0
      cases hf : followN g g.length x with
      | none =>
        obtain rfl : m = x := by rw [HM.out, skip_none hf]
        clear hf hm
        have e1 : folO none = 0 := rfl
        have e2 : (none : Option Nat).isSome = false := rfl
        rw [e1, e2]
        clear e1 e2
        go_wp2_with (at_builtin; go_must (refine wpList_push rfl _ _ rfl _ w.heap.size ((ls.take k).map (skipN g)) [m] (.slice adp k capp) (.slice (some ⟨w1.heap.size, 0, none⟩) 1 1) rfl HS3.out rfl HK3.out rfl HLO.out (by rw [HJL.out]; simp; omega) ?_); go_must (intro v' w5 hst5 hg5); go_must (have HS5 := mkHid hst5); go_must (have HB5 : Hid (Below w.heap.size w w5) := push_below HS3.out (HB1.out.alloc hzw _) (Nat.le_refl _) hg5 (Nat.le_refl _)); clear hst5 hg5)
        have HS6 : Hid (Stk w5 w.heap.size ((ls.take (k + 1)).map (skipN g)) v') := by
          rw [Hid, take_snoc HX.out, List.map_append, List.map_singleton, ← HM.out]; exact HS5.out
        go_roundw
        case rel => first | exact ⟨k + 1, by omega, by go_num, HS6.out, HB5.out⟩ | ((repeat apply Exists.intro); exact ⟨⟨k + 1, by omega, by go_num, HS6.out, HB5.out⟩, rfl⟩)
        case measure => simp [intOf]; omega
      | some b =>
        obtain rfl : m = b := by rw [HM.out, skip_some hf]
        clear hf hm
        have e1 : folO (some m) = (m : Int) := rfl
        have e2 : (some m).isSome = true := rfl
        rw [e1, e2]
        clear e1 e2
        go_wp2_with (at_builtin; go_must (refine wpList_push rfl _ _ rfl _ w.heap.size ((ls.take k).map (skipN g)) [m] (.slice adp k capp) (.slice (some ⟨w1.heap.size, 0, none⟩) 1 1) rfl HS3.out rfl HK3.out rfl HLO.out (by rw [HJL.out]; simp; omega) ?_); go_must (intro v' w5 hst5 hg5); go_must (have HS5 := mkHid hst5); go_must (have HB5 : Hid (Below w.heap.size w w5) := push_below HS3.out (HB1.out.alloc hzw _) (Nat.le_refl _) hg5 (Nat.le_refl _)); clear hst5 hg5)
        have HS6 : Hid (Stk w5 w.heap.size ((ls.take (k + 1)).map (skipN g)) v') := by
          rw [Hid, take_snoc HX.out, List.map_append, List.map_singleton, ← HM.out]; exact HS5.out
        go_roundw
        case rel => first | exact ⟨k + 1, by omega, by go_num, HS6.out, HB5.out⟩ | ((repeat apply Exists.intro); exact ⟨⟨k + 1, by omega, by go_num, HS6.out, HB5.out⟩, rfl⟩)
        case measure => simp [intOf]; omega
    · have hke : k = ls.length := by omega
      have HV : Hid (Stk wr w.heap.size (ls.map (skipN g)) (.slice adp k capp)) := by
        have h := HS.out
        rw [hke, List.take_length] at h
        rw [hke]; exact h
      clear hb hke
      go_wp2_with fail
      go_ret
      exact ⟨_, rfl, HV.out, HB.out⟩
end Go.Proofs.Ytglpehelmlehiaa
/-
  AN OPERAND OF A CELL OF A GRAPH THAT IS BEING BUILT, OVERWRITTEN.
-/
namespace Go.Proofs.Ytglpehelmlehiaa
set_option linter.unusedVariables false
set_option linter.unusedSimpArgs false
open Go.RowKit

/-- a cell with one operand overwritten -/
def setKid (g : List Ce) (i q : Nat) (y : Int) : List Ce := g.modify i fun c => ⟨c.op, c.num, c.kids.set q y⟩
theorem setKid_len (g : List Ce) (i q : Nat) (y : Int) : (setKid g i q y).length = g.length := by simp [setKid]
theorem setKid_at (g : List Ce) (i q : Nat) (y : Int) (j : Nat) (hj : j < g.length) : (setKid g i q y)[j]'(by rw [setKid_len]; exact hj) = if i = j then ⟨g[j].op, g[j].num, g[j].kids.set q y⟩ else g[j] := by
  unfold setKid; rw [List.getElem_modify]
theorem setKid_op (g : List Ce) (i q : Nat) (y : Int) (j : Nat) (hj : j < g.length) : ((setKid g i q y)[j]'(by rw [setKid_len]; exact hj)).op = g[j].op ∧ ((setKid g i q y)[j]'(by rw [setKid_len]; exact hj)).num = g[j].num ∧ ((setKid g i q y)[j]'(by rw [setKid_len]; exact hj)).kids.length = g[j].kids.length := by
  rw [setKid_at g i q y j hj]; split <;> simp
theorem nil_len {α : Type} {l : List α} : l = [] ↔ l.length = 0 := List.length_eq_zero_iff.symm
/-- where an operand lies -/
theorem OwnC.kidAt {w : World} {lo : Nat} {S : Nat → Prop} {g : List Ce} {v : Value} (h : OwnC w lo S g v) (i : Nat) (hi : i < g.length) (q : Nat) (hq : q < g[i].kids.length) :
    ∃ b cap blk capk, v = .slice (some ⟨b, 0, none⟩) g.length cap ∧ lo ≤ b ∧ b < w.heap.size ∧ S blk ∧ blk < w.heap.size ∧ b ≠ blk ∧ g[i].kids.length ≤ capk ∧ capk ≤ maxLen ∧ w.cell? ⟨b, i * 3 + 2, none⟩ = some (.slice (some ⟨blk, 0, none⟩) g[i].kids.length capk) ∧
      w.cell? ⟨blk, q, none⟩ = some (.int .i64 g[i].kids[q]) ∧ w.frozen? ⟨blk, q, none⟩ = false ∧ ∀ y, OwnC (w.setCell ⟨blk, q, none⟩ (.int .i64 y)) lo S (setKid g i q y) v := by
  obtain ⟨hi0, xs, kb, h1, h2, h3⟩ := h
  obtain ⟨kv, e0, e1, e2, adk, capk, rfl, l1, l2, h5⟩ := h2 i hi
  rcases h5 with h5 | ⟨f, rfl, hS, hr, hf⟩
  · rw [h5] at hq; simp at hq
  obtain ⟨C, hC, -, -⟩ := id hr
  have hne : ∀ k, some k = v.ownBlock → k ≠ kb i := by
    rintro k e rfl
    rcases h1.2 with ⟨rfl, -⟩ | ⟨b, cap, cur, rfl, -, hh, -⟩
    · simp [Value.ownBlock] at e
    · simp only [Value.ownBlock, Option.some.injEq] at e
      rw [e, hh] at hC
      simp at hC
  obtain ⟨b, cap, rfl, hlo, hbl⟩ : ∃ b cap, v = .slice (some ⟨b, 0, none⟩) g.length cap ∧ lo ≤ b ∧ b < w.heap.size := by
    rcases h1.2 with ⟨rfl, h0⟩ | ⟨b, cap, cur, rfl, hg, hh, -⟩
    · omega
    · exact ⟨b, cap, rfl, hg, (Array.getElem?_eq_some_iff.1 hh).1⟩
  have hcell := h1.cellAt (i * 3 + 2) (by omega)
  have hfq := hr.cell (i := q) (by omega)
  rw [hf q hq] at hfq
  refine ⟨b, cap, kb i, capk, rfl, hlo, hbl, hS, hr.lt, hne b rfl, l1, l2, ?_, hfq, hr.frozen q, fun y => ?_⟩
  · rw [hcell]; exact e2
  have keepb : ∀ k, k ≠ kb i → (w.setCell ⟨kb i, q, none⟩ (.int .i64 y)).heap[k]? = w.heap[k]? := fun k hk => Below.heap_setCell _ _ _ _ hk
  refine ⟨fun j hj => ?_, xs, kb, ?_, fun j hj => ?_, ?_⟩
  · have hj2 : j < g.length := by rw [setKid_len] at hj; exact hj
    obtain ⟨a1, a2, -⟩ := setKid_op g i q y j hj2
    rw [a1, a2]; exact hi0 j hj2
  · rw [setKid_len]
    refine ⟨h1.1, ?_⟩
    rcases h1.2 with h | ⟨b2, cap2, cur, e, hg, hh, r⟩
    · exact Or.inl h
    · exact Or.inr ⟨b2, cap2, cur, e, hg, (keepb b2 (hne b2 (by rw [e]; rfl))).trans hh, r⟩
  · have hj2 : j < g.length := by rw [setKid_len] at hj; exact hj
    obtain ⟨a1, a2, a3⟩ := setKid_op g i q y j hj2
    obtain ⟨kv2, f0, f1, f2, f3⟩ := h2 j hj2
    refine ⟨kv2, by rw [a1]; exact f0, by rw [a2]; exact f1, f2, ?_⟩
    obtain ⟨ad2, cap2, rfl, m1, m2, f5⟩ := f3
    refine ⟨ad2, cap2, by rw [a3], by rw [a3]; exact m1, m2, ?_⟩
    rcases f5 with f5 | ⟨f', rfl, hS', hr', hf'⟩
    · exact Or.inl (nil_len.2 (by rw [a3, f5]; rfl))
    · by_cases hji : j = i
      · subst hji
        have hc2 : cap2 = capk := by
          rw [e2] at f2
          simp only [Option.some.injEq, Value.slice.injEq] at f2
          exact f2.2.2.symm
        subst hc2
        refine Or.inr ⟨fun x => if x = q then .int .i64 y else f x, rfl, hS, hr.set q _, fun x hx => ?_⟩
        rw [a3] at hx
        simp only [setKid_at g j q y j hj2, if_pos, List.getElem_set]
        by_cases e : x = q
        · rw [if_pos e, if_pos e.symm]
        · rw [if_neg e, if_neg (fun h => e h.symm)]; exact hf x hx
      · have hkk : g[j].kids = [] ∨ kb j ≠ kb i := by
          by_cases hn : g[j].kids = []
          · exact Or.inl hn
          · exact Or.inr (h3 j i hj2 hi hji hn (fun e => by rw [e] at hq; simp at hq))
        rcases hkk with hkk | hkk
        · exact Or.inl (nil_len.2 (by rw [a3, hkk]; rfl))
        · refine Or.inr ⟨f', rfl, hS', hr'.of_block (keepb _ hkk), fun x hx => ?_⟩
          simp only [setKid_at g i q y j hj2, if_neg (fun e : i = j => hji e.symm)] at hx ⊢
          exact hf' x hx
  · intro a b ha hb hab ea eb
    rw [setKid_len] at ha hb
    refine h3 a b ha hb hab (fun e => ea (nil_len.2 ?_)) (fun e => eb (nil_len.2 ?_))
    · rw [(setKid_op g i q y a ha).2.2, e]; rfl
    · rw [(setKid_op g i q y b hb).2.2, e]; rfl
end Go.Proofs.Ytglpehelmlehiaa
/-
  PLAIN: operands replaced one by one by the cells for which they stand. No program is named here.
-/
namespace Go.Proofs.Ytglpehelmlehiaa
set_option linter.unusedVariables false
set_option linter.unusedSimpArgs false

/-- the operands of the cells before i, and the first k of cell i, are replaced -/
def shortP (g : List Ce) (i k : Nat) : List Ce := g.mapIdx fun j c => ⟨c.op, c.num, c.kids.mapIdx fun q x => if j < i ∨ (j = i ∧ q < k) then (skipN g x.toNat : Int) else x⟩
theorem shortP_len (g : List Ce) (i k : Nat) : (shortP g i k).length = g.length := by simp [shortP]
theorem shortP_at (g : List Ce) (i k j : Nat) (hj : j < g.length) : (shortP g i k)[j]'(by rw [shortP_len]; exact hj) = ⟨g[j].op, g[j].num, g[j].kids.mapIdx fun q x => if j < i ∨ (j = i ∧ q < k) then (skipN g x.toNat : Int) else x⟩ := by simp [shortP]
theorem ce_ext {a b : Ce} (h1 : a.op = b.op) (h2 : a.num = b.num) (h3 : a.kids = b.kids) : a = b := by cases a; cases b; simp_all
theorem shortP_zero (g : List Ce) : shortP g 0 0 = g := by
  refine List.ext_getElem (shortP_len g 0 0) fun j h1 h2 => ?_
  rw [shortP_at g 0 0 j h2]
  refine ce_ext rfl rfl (List.ext_getElem (by simp) fun q h3 h4 => ?_)
  simp only [List.getElem_mapIdx]
  rw [if_neg (by omega)]
theorem shortP_end (g : List Ce) : shortP g g.length 0 = shortG g := by
  refine List.ext_getElem (by rw [shortP_len, shortG_len]) fun j h1 h2 => ?_
  rw [shortG_len] at h2
  rw [shortP_at g _ 0 j h2, shortG_at g j h2]
  unfold shortC
  refine ce_ext rfl rfl (List.ext_getElem (by simp) fun q h3 h4 => ?_)
  simp only [List.getElem_mapIdx, List.getElem_map]
  rw [if_pos (Or.inl h2)]
theorem shortP_next (g : List Ce) (i k : Nat) (hi : i < g.length) (hk : g[i].kids.length ≤ k) : shortP g i k = shortP g (i + 1) 0 := by
  refine List.ext_getElem (by rw [shortP_len, shortP_len]) fun j h1 h2 => ?_
  rw [shortP_len] at h2
  rw [shortP_at g i k j h2, shortP_at g (i + 1) 0 j h2]
  refine ce_ext rfl rfl (List.ext_getElem (by simp) fun q h3 h4 => ?_)
  simp only [List.getElem_mapIdx]
  simp only [List.length_mapIdx] at h3
  have e : (j < i ∨ (j = i ∧ q < k)) ↔ (j < i + 1 ∨ (j = i + 1 ∧ q < 0)) := by
    by_cases hji : j = i
    · subst hji; constructor <;> intro _ <;> omega
    · omega
  by_cases h : j < i ∨ (j = i ∧ q < k)
  · rw [if_pos h, if_pos (e.1 h)]
  · rw [if_neg h, if_neg (fun h2 => h (e.2 h2))]
theorem shortP_kid (g : List Ce) (i k : Nat) (hi : i < g.length) (hk : k < g[i].kids.length) : ((shortP g i k)[i]'(by rw [shortP_len]; exact hi)).kids.length = g[i].kids.length ∧ ∀ h, ((shortP g i k)[i]'(by rw [shortP_len]; exact hi)).kids[k]'h = g[i].kids[k] := by
  refine ⟨by rw [shortP_at g i k i hi]; simp, fun h => ?_⟩
  simp only [shortP_at g i k i hi, List.getElem_mapIdx]
  rw [if_neg (by omega)]
theorem shortP_klen (g : List Ce) (i k : Nat) (hi : i < g.length) : ((shortP g i k)[i]'(by rw [shortP_len]; exact hi)).kids.length = g[i].kids.length := by rw [shortP_at g i k i hi]; simp
theorem shortP_step (g : List Ce) (i k : Nat) (hi : i < g.length) (hk : k < g[i].kids.length) : setKid (shortP g i k) i k (skipN g (g[i].kids[k]).toNat : Int) = shortP g i (k + 1) := by
  refine List.ext_getElem (by rw [setKid_len, shortP_len, shortP_len]) fun j h1 h2 => ?_
  rw [shortP_len] at h2
  rw [setKid_at _ _ _ _ j (by rw [shortP_len]; exact h2), shortP_at g i (k + 1) j h2, shortP_at g i k j h2]
  split
  · rename_i e
    subst e
    refine ce_ext rfl rfl (List.ext_getElem (by simp) fun q h3 h4 => ?_)
    simp only [List.getElem_set, List.getElem_mapIdx]
    by_cases hq : k = q
    · subst hq
      rw [if_pos rfl]
      exact (if_pos (Or.inr ⟨trivial, Nat.lt_succ_self _⟩)).symm
    · rw [if_neg hq]
      by_cases h : q < k
      · rw [if_pos (Or.inr ⟨trivial, h⟩)]
        exact (if_pos (Or.inr ⟨trivial, Nat.lt_succ_of_lt h⟩)).symm
      · have h1 : ¬ (i < i ∨ (True ∧ q < k)) := by simp; omega
        have h2 : ¬ (i < i ∨ (True ∧ q < k + 1)) := by simp; omega
        rw [if_neg h1]
        exact (if_neg h2).symm
  · rename_i e
    refine ce_ext rfl rfl (List.ext_getElem (by simp) fun q h3 h4 => ?_)
    simp only [List.getElem_mapIdx]
    by_cases h : j < i
    · rw [if_pos (Or.inl h)]
      exact (if_pos (Or.inl h)).symm
    · have h1 : ¬ (j < i ∨ (j = i ∧ q < k)) := by omega
      have h2 : ¬ (j < i ∨ (j = i ∧ q < k + 1)) := by omega
      rw [if_neg h1]
      exact (if_neg h2).symm
end Go.Proofs.Ytglpehelmlehiaa
/-
  THE PROGRAM's CollectGraph.
-/
namespace Go.Proofs.Ytglpehelmlehiaa
set_option linter.unusedVariables false
set_option linter.unusedSimpArgs false
open Go.RowKit

theorem natL_plI (l : List Nat) : natL (plI l) = l := by
  unfold natL plI; rw [List.map_map]; conv => rhs; rw [← List.map_id l]
  exact List.map_congr_left fun a _ => by simp
theorem rootB_plI {g : List Ce} {l : List Nat} (hg : graphB g 6 = true) (h20 : l.length ≤ 20) (hl : ∀ x ∈ l, x < g.length) : rootB g (plI l) = true := by
  refine rootB_iff.2 ⟨hg, by rw [plI_length]; exact h20, ?_⟩
  rw [List.all_eq_true]
  intro x hx
  simp only [plI, List.mem_map] at hx
  obtain ⟨a, ha, rfl⟩ := hx
  have := hl a ha
  exact isAt_in (by omega) (by omega)
theorem short_kids {g : List Ce} {defs : Int} (hg : graphB g defs = true) (k : Nat) (hk : k < g.length) : shortC g g[k] = ⟨g[k].op, g[k].num, ((kidsN g k).map (skipN g)).map fun (a : Nat) => (a : Int)⟩ := by
  unfold shortC
  rw [kidsN_at k hk, List.map_map, List.map_map, List.map_map]
  rfl
theorem pastInds_lt {g : List Ce} {defs : Int} (hg : graphB g defs = true) (l : List Nat) (h : ∀ x ∈ l, x < g.length) : ∀ x ∈ l.map (skipN g), x < (shortG g).length := by
  intro x hx
  simp only [List.mem_map] at hx
  obtain ⟨a, ha, rfl⟩ := hx
  rw [shortG_len]
  exact skip_lt hg (h a ha)
/-- what pastInds leaves of the operands of cell k, a copy of which lies in the box wr.heap.size -/
def PastAt (g : List Ce) (k n : Nat) (wr : World) (o : Obj) (e : Ending) (w5 : World) : Prop :=
  ∃ ad cap, e = .returned (.slice ad n cap) ∧ Stk w5 wr.heap.size ((kidsN g k).map (skipN g)) (.slice ad n cap) ∧ Below wr.heap.size wr w5 ∧ w5.heap[wr.heap.size]? = some o
theorem past_at {g : List Ce} {k n : Nat} {wr w5 : World} {o : Obj} {e : Ending} (hx : (wr.alloc o).heap[wr.heap.size]? = some o) (hs : (wr.alloc o).heap.size = wr.heap.size + 1) (hl : ((kidsN g k).map (skipN g)).length = n) (h : NewStk ((kidsN g k).map (skipN g)) (wr.alloc o).drew e w5) : PastAt g k n wr o e w5 := by
  obtain ⟨v, rfl, hst, hb⟩ := h
  have hb2 : Below (wr.alloc o).heap.size (wr.alloc o) w5 := ((Below.refl _ _).drew).trans hb
  obtain ⟨ad, cap, rfl⟩ := stk_len2 hst hl
  exact ⟨ad, cap, rfl, hst.lower (by show _ ≤ (wr.alloc o).heap.size; omega), (box_below wr o).trans (hb2.mono (by omega)), (hb2.block _ (by omega)).trans hx⟩
theorem past_keep {wr w5 w3 : World} {lo k : Nat} {v : Value} {xs : List Value} {C : Array Value} {T : TypeId} {o : Obj} (hx : wr.ownsRow lo 48 3 v k xs) (h5 : w5.heap[wr.heap.size]? = some (.cells C T)) (hb : Below wr.heap.size wr w5) (hg : (w5.alloc o).grownBy w3 v.ownBlock) : w3.heap[wr.heap.size]? = some (.cells C T) := by
  have hl := (Array.getElem?_eq_some_iff.1 h5).1
  exact ((hg.block wr.heap.size (by rw [Deep.nblk_alloc]; omega) (fun e => by have := (own_some hx _ e.symm).2; omega)).trans (Deep.blk_alloc_lt _ _ _ hl)).trans h5

set_option maxRecDepth 100000 in
set_option maxHeartbeats 3200000 in
theorem implColl_calls (g : List Ce) (rs : List Int) (v rv : Value) (w : World) (hk : CIn w g v) (hr : IIn w rs rv) :
    Calls Try.prog 31 #[v, rv] w (OwnGI (collO g rs) (rootB g rs) w) := by
  have HK : Hid (CIn w g v) := hk
  have HR : Hid (IIn w rs rv) := hr
  obtain ⟨ad, cap, rfl, hl, hm, -⟩ := hk
  unfold maxLen at hm
  clear hr
  go_enter Try.func31, Try.ntmps31
  go_wp2_with fail
  refine (canCopy_calls g rs _ _ _ HK.out HR.out).mono ?_
  rintro e w1 ⟨rfl, hb1⟩
  have HB1 : Hid (Below w.heap.size w w1) := hb1
  clear hb1
  cases hg : rootB g rs with
  | false =>
    have HV := mkHid (collO_no hg)
    have HT := mkHid hg
    clear hg
    go_wp2_with fail
    go_ret3
    rw [HV.out, HT.out]
    exact ⟨_, _, rfl, gi_res (lo := w1.heap.size) (OwnC.nil _ _ (fun _ => False)) (fun _ h => h.elim) (no_ints _ _ _ 0 (by simp [maxLen])) HB1.out.size (Nat.le_refl _), HB1.out⟩
  | true =>
    have HT := mkHid hg
    have HV := mkHid (collO_yes hg)
    have HG := mkHid (rootB_iff.1 hg).1
    have HR2 : Hid (IIn w1 (plI (natL rs)) rv) := by
      have h := HR.out.next HB1.out
      rw [root_back hg] at h
      exact h
    have h400 : g.length ≤ 400 := graphB_len HG.out
    have HST : Hid (OwnC w1 w1.heap.size (fun b => w1.heap.size ≤ b) ((g.take 0).map (shortC g)) (.slice none 0 0)) := OwnC.nil _ _ _
    clear hg
    go_wp2_with fail
    go_loopw [7, 16] (fun out z wr => ∃ k : Nat, k ≤ g.length ∧ z = .int .i64 k ∧ OwnC wr w1.heap.size (fun b => w1.heap.size ≤ b) ((g.take k).map (shortC g)) out ∧ Below w1.heap.size w1 wr) (fun _ z _ => g.length - (intOf z).toNat)
    case atStart => exact ⟨0, Nat.zero_le _, rfl, HST.out, Below.refl _ _⟩
    case round =>
      obtain ⟨k, hk, rfl, hown, hb⟩ := hrel
      have HO := mkHid hown
      have HB : Hid (Below w1.heap.size w1 wr) := hb
      have hsz := hb.size
      by_cases hlt : k < g.length
      · obtain ⟨bl, off, r2, rfl, c0, c1, c2, io, iN, hkk⟩ := (HK.out.next (HB1.out.trans (hb.mono HB1.out.size))).at k hlt
        obtain ⟨adk, capk, rfl, -, -, -⟩ := id hkk
        have HIO : Hid (I64 g[k].op ∧ I64 g[k].num) := ⟨io, iN⟩
        have HTL : Hid (((g.take k).map (shortC g)).length = k) := by rw [Hid, List.length_map, List.length_take]; omega
        obtain ⟨adu, capu, rfl⟩ : ∃ ad cap, u7 = .slice ad k cap := by obtain ⟨x, y, e⟩ := hown.form; rw [HTL.out] at e; exact ⟨x, y, e⟩
        obtain ⟨xs, hx⟩ := hown.row
        rw [HTL.out] at hx
        have HX : Hid (wr.ownsRow w1.heap.size 48 3 (.slice adu k capu) k xs) := hx
        have HBX : Hid (Below wr.heap.size wr (wr.alloc (.cells #[.int .i64 g[k].op, .int .i64 g[k].num, .slice adk g[k].kids.length capk] 48))) := box_below _ _
        have HKX : Hid (CIn (wr.alloc (.cells #[.int .i64 g[k].op, .int .i64 g[k].num, .slice adk g[k].kids.length capk] 48)).drew g (.slice (some ⟨bl, off, none⟩) g.length cap)) := ((HK.out.next (HB1.out.trans (hb.mono HB1.out.size))).next HBX.out).drew
        have HIX : Hid (IIn (wr.alloc (.cells #[.int .i64 g[k].op, .int .i64 g[k].num, .slice adk g[k].kids.length capk] 48)).drew (plI (kidsN g k)) (.slice adk g[k].kids.length capk)) := kids_pl HG.out hlt ((hkk.next HBX.out).drew)
        have x0 := box_cell wr #[.int .i64 g[k].op, .int .i64 g[k].num, .slice adk g[k].kids.length capk] 48 0 _ rfl
        have x1 := box_cell wr #[.int .i64 g[k].op, .int .i64 g[k].num, .slice adk g[k].kids.length capk] 48 1 _ rfl
        have x2 := box_cell wr #[.int .i64 g[k].op, .int .i64 g[k].num, .slice adk g[k].kids.length capk] 48 2 _ rfl
        have HXX : Hid ((wr.alloc (.cells #[.int .i64 g[k].op, .int .i64 g[k].num, .slice adk g[k].kids.length capk] 48)).heap[wr.heap.size]? = some (.cells #[.int .i64 g[k].op, .int .i64 g[k].num, .slice adk g[k].kids.length capk] 48)) := Deep.blk_alloc_new _ _
        have HSX : Hid ((wr.alloc (.cells #[.int .i64 g[k].op, .int .i64 g[k].num, .slice adk g[k].kids.length capk] 48)).heap.size = wr.heap.size + 1) := Deep.nblk_alloc _ _
        have HLK := mkHid (kidsN_lt HG.out k hlt)
        have HK3 := mkHid (kidsN_len HG.out k hlt)
        have HKN : Hid ((kidsN g k).length = g[k].kids.length) := by rw [Hid, kidsN_at k hlt]; simp
        obtain ⟨iC, zC, hII⟩ := infoC1
        have HII : Hid (Try.prog.info? 48 = some iC ∧ iC.zero = some zC ∧ iC.size = 3 ∧ iC.bytes = 40 ∧ zC.cells.size = 3) := hII
        have HCALL : Hid (Calls Try.prog 67 #[.slice (some ⟨bl, off, none⟩) g.length cap, .slice adk g[k].kids.length capk] (wr.alloc (.cells #[.int .i64 g[k].op, .int .i64 g[k].num, .slice adk g[k].kids.length capk] 48)).drew (PastAt g k g[k].kids.length wr (.cells #[.int .i64 g[k].op, .int .i64 g[k].num, .slice adk g[k].kids.length capk] 48))) :=
          (pastInds_calls g (kidsN g k) _ _ _ HKX.out HG.out HIX.out HLK.out (by have := HK3.out; omega)).mono fun e w5 h => past_at HXX.out HSX.out (by rw [List.length_map]; exact HKN.out) h
        clear hown hb hkk io iN hx hII
        go_wp2_with fail
        go_region_held3 (fun w' => w'.cell? ⟨wr.heap.size, 0, none⟩ = some (.int .i64 g[k].op) ∧ w'.cell? ⟨wr.heap.size, 1, none⟩ = some (.int .i64 g[k].num) ∧ w'.cell? ⟨wr.heap.size, 2, none⟩ = some (.slice adk g[k].kids.length capk))
          (first
            | go_keep
            | exact ⟨e0, e1, e2⟩
            | exact ⟨d0, d1, d2⟩
            | exact ⟨old_cell d0 _, old_cell d1 _, old_cell d2 _⟩
            | exact ⟨x0, x1, x2⟩)
          (first
            | (go_at_call 67; refine HCALL.out.mono ?_; rintro e w5 ⟨ad5, cap5, rfl, hs5, hb5, hx5⟩; have HB5 := mkHid hb5; have HS5 := mkHid hs5; have HX5 := mkHid hx5; have d0 := cell_of_blk hx5 0 _ rfl; have d1 := cell_of_blk hx5 1 _ rfl; have d2 := cell_of_blk hx5 2 _ rfl; have HL5 : Hid (wr.heap.size < w5.heap.size) := cell_lt d0; clear hs5 hb5 hx5)
            | (refine step_append_where (by rfl) (.tmp 20) (.tmp 30) 24 (by rfl) w1.heap.size 48 iC zC 3 40 Try.underlying24 HII.out.1 HII.out.2.1 HII.out.2.2.1 HII.out.2.2.2.1 HII.out.2.2.2.2 (by decide) (.slice adu k capu) k xs (by rfl) (copy_own HX.out HB5.out _) ⟨w5.heap.size, 0, none⟩ 1 1 [.int .i64 g[k].op, .int .i64 g[k].num, .slice ad5 g[k].kids.length cap5] (by rfl) (by rfl) (news3c w5 _ _ _) (by simp [Value.oneCell']) (by unfold maxLen; omega) (by omega) (by show w1.heap.size ≤ (w5.alloc _).heap.size; rw [Deep.nblk_alloc]; have := HB5.out.size; omega) (by omega) ?_; intro v3 w3 hown3 hg3 hw3; have HOWN3 : Hid (w3.ownsRow w1.heap.size 48 3 v3 (k + 1) (xs ++ [.int .i64 g[k].op, .int .i64 g[k].num, .slice ad5 g[k].kids.length cap5])) := hown3; have HG3 : Hid ((w5.alloc (.cells #[.int .i64 g[k].op, .int .i64 g[k].num, .slice ad5 g[k].kids.length cap5] 48)).grownBy w3 (Value.slice adu k capu).ownBlock) := hg3; have HB3 : Hid (Below w1.heap.size w1 w3) := copy_below3 HB.out HB5.out HX.out hg3; have hX3 := past_keep HX.out HX5.out HB5.out hg3; have e0 := cell_of_blk hX3 0 _ rfl; have e1 := cell_of_blk hX3 1 _ rfl; have e2 := cell_of_blk hX3 2 _ rfl; clear hown3 hg3 hw3 hX3))
        go_wp2_with fail
        go_roundw
        case rel =>
          refine ⟨k + 1, by omega, by go_num, ?_, HB3.out⟩
          have h := copy_push (G := (g.take k).map (shortC g)) (ws := (kidsN g k).map (skipN g)) (o := g[k].op) (n := g[k].num) HO.out hsz HB5.out HS5.out _ (by rw [HTL.out]; exact copy_own HX.out HB5.out _) (by rw [HTL.out]; exact HOWN3.out) HG3.out HIO.out.1 HIO.out.2
          rw [List.take_succ_eq_append_getElem hlt, List.map_append, List.map_singleton, short_kids HG.out k hlt]
          exact h
        case measure => simp [intOf]; omega
      · have hke : k = g.length := by omega
        have HC : Hid (CIn wr (shortG g) u7) := by
          have h := HO.out
          rw [hke, List.take_length] at h
          exact (h.own fun k h _ => h).inn
        clear hown hb hke
        go_wp2_with fail
        refine (pastInds_calls g (natL rs) _ _ _ (HK.out.next (HB1.out.trans (HB.out.mono HB1.out.size))) HG.out (HR2.out.next HB.out) (root_lt HT.out) (by have := (rootB_iff.1 HT.out).2.1; rw [natL_len]; omega)).mono ?_
        rintro e w2 ⟨tv, rfl, hs, hb2⟩
        have HB2 : Hid (Below w.heap.size w w2) := (HB1.out.trans (HB.out.mono HB1.out.size)).trans (hb2.mono (Nat.le_trans HB1.out.size HB.out.size))
        have HC2 := mkHid (HC.out.next hb2)
        have HS := mkHid hs.pin
        have HLT := mkHid (pastInds_lt HG.out (natL rs) (root_lt HT.out))
        have HRB : Hid (rootB (shortG g) (plI ((natL rs).map (skipN g))) = true) := rootB_plI (shortG_valid HG.out) (by rw [List.length_map, natL_len]; exact (rootB_iff.1 HT.out).2.1) HLT.out
        have HVV := mkHid (copyO_yes HRB.out)
        clear hs hb2
        go_wp2_with fail
        refine (implCopyG_calls (shortG g) (plI ((natL rs).map (skipN g))) _ _ _ HC2.out HS.out).mono ?_
        rintro e w3 ⟨gv, tv3, rfl, hres, hb3⟩
        rw [HVV.out, natL_plI] at hres
        rw [HRB.out]
        have HRES := mkHid hres
        have HB3 : Hid (Below w.heap.size w w3) := HB2.out.trans (hb3.mono HB2.out.size)
        have HSZ := mkHid HB2.out.size
        clear hres hb3
        go_wp2_with fail
        go_ret3
        rw [HV.out, HT.out]
        exact ⟨_, _, rfl, HRES.out.lower HSZ.out, HB3.out⟩
end Go.Proofs.Ytglpehelmlehiaa
/-
  THE MODEL's l5Skip: past indirections.
-/
namespace Go.Proofs.Ytglpehelmlehiaa
set_option linter.unusedVariables false
set_option linter.unusedSimpArgs false
open Go.RowKit

set_option maxHeartbeats 800000 in
theorem l5Skip_calls (g : List Ce) (a : Nat) (v : Value) (w : World) (hk : CIn w g v) (hg : graphB g 6 = true) (ha : a < g.length) :
    Calls Try.prog 92 #[v, .int .i64 (a : Int)] w fun e w' => e = .returned (.int .i64 (skipN g a : Int)) ∧ Below w.heap.size w w' := by
  have HK : Hid (CIn w g v) := hk
  have HG := mkHid hg
  have HSK : Hid (skipN g a = (followN g g.length a).getD a) := rfl
  clear hk hg
  go_enter Try.func92, Try.ntmps92
  go_wp2_with fail
  refine (l3Follow_calls g a _ _ HK.out ⟨6, HG.out⟩ ha).mono ?_
  rintro e w1 ⟨rfl, hb1⟩
  have HB1 : Hid (Below w.heap.size w w1) := hb1
  clear hb1
  rw [follow_enough HG.out a ha]
  cases hf : followN g g.length a with
  | none =>
    have HV : Hid (skipN g a = a) := by rw [Hid, HSK.out, hf]; rfl
    clear hf
    have e1 : folI none = -1 := rfl
    rw [e1]
    go_wp2_with fail
    go_ret
    exact ⟨ret_int (by rw [HV.out]), HB1.out⟩
  | some b =>
    have HV : Hid (skipN g a = b) := by rw [Hid, HSK.out, hf]; rfl
    clear hf
    have e1 : folI (some b) = (b : Int) := rfl
    rw [e1]
    have hbn : ¬ ((b : Int) < 0) := by omega
    go_wp2_with fail
    go_ret
    exact ⟨ret_int (by rw [HV.out]), HB1.out⟩
end Go.Proofs.Ytglpehelmlehiaa
/-
  THE MODEL's l5Short: operands past indirections, in place on a copy.
-/
namespace Go.Proofs.Ytglpehelmlehiaa
set_option linter.unusedVariables false
set_option linter.unusedSimpArgs false
open Go.RowKit

theorem set_congr {w W : World} {j : Nat} (h : W.heap[j]? = w.heap[j]?) (a : Addr) (v : Value) : (W.setCell a v).heap[j]? = (w.setCell a v).heap[j]? := by
  simp only [World.setCell, Array.getElem?_modify, h]
theorem CellsOn.at' {w : World} {g : List Ce} {v : Value} (h : CIn w g v) (i : Nat) (hi : i < g.length) :
    ∃ bl off c, v = .slice (some ⟨bl, off, none⟩) g.length (match v with | .slice _ _ c => c | _ => 0) ∧ w.cell? ⟨bl, off + i * 3, none⟩ = some (.int .i64 g[i].op) ∧ w.cell? ⟨bl, off + i * 3 + 1, none⟩ = some (.int .i64 g[i].num) ∧ w.cell? ⟨bl, off + i * 3 + 2, none⟩ = some c ∧ I64 g[i].op ∧ I64 g[i].num ∧ IIn w g[i].kids c := by
  obtain ⟨ad, cap, rfl, l1, l2, h5⟩ := id h
  obtain ⟨bl, off, c, rfl, r⟩ := CellsOn.at h i hi
  exact ⟨bl, off, c, rfl, r⟩

set_option maxRecDepth 100000 in
set_option maxHeartbeats 3200000 in
theorem l5Short_calls (g : List Ce) (v : Value) (w : World) (hk : CIn w g v) (hg : graphB g 6 = true) : Calls Try.prog 93 #[v] w (CopyRes (shortG g) w) := by
  have HK : Hid (CIn w g v) := hk
  have HG := mkHid hg
  have h400 : g.length ≤ 400 := graphB_len hg
  obtain ⟨ad, cap, rfl, hl, hm, -⟩ := hk
  unfold maxLen at hm
  clear hg
  go_enter Try.func93, Try.ntmps93
  go_wp2_with fail
  refine (l3Copy_calls g _ _ HK.out ⟨6, HG.out⟩).mono ?_
  rintro e w1 ⟨gv, rfl, ho, hb1⟩
  have HB1 : Hid (Below w.heap.size w w1) := hb1
  have HO0 : Hid (OwnC w1 w.heap.size (fun b => w.heap.size ≤ b) (shortP g 0 0) gv) := by rw [Hid, shortP_zero]; exact ho
  obtain ⟨adg, capg, rfl⟩ := ho.form
  clear ho hb1
  go_wp2_with fail
  go_loopw [4] (fun z wr => ∃ i : Nat, i ≤ g.length ∧ z = .int .i64 i ∧ OwnC wr w.heap.size (fun b => w.heap.size ≤ b) (shortP g i 0) (.slice adg g.length capg) ∧ Below w.heap.size w wr) (fun z _ => g.length - (intOf z).toNat)
  case atStart => exact ⟨0, Nat.zero_le _, rfl, HO0.out, HB1.out⟩
  case round =>
    obtain ⟨i, hi, rfl, ho, hb⟩ := hrel
    obtain ⟨wo, rfl⟩ : ∃ wo : World, wo = wr := ⟨_, rfl⟩
    have HO := mkHid ho
    have HB : Hid (Below w.heap.size w wo) := hb
    by_cases hlt : i < g.length
    · clear ho hb
      go_wp2_with fail
      go_loopw [5] (fun z wr => ∃ k : Nat, k ≤ g[i].kids.length ∧ z = .int .i64 k ∧ OwnC wr w.heap.size (fun b => w.heap.size ≤ b) (shortP g i k) (.slice adg g.length capg) ∧ Below w.heap.size w wr) (fun z _ => g[i].kids.length - (intOf z).toNat)
      case atStart => exact ⟨0, Nat.zero_le _, rfl, HO.out, HB.out⟩
      case round =>
        obtain ⟨k, hk, rfl, ho, hb⟩ := hrel
        have HO2 := mkHid ho
        have HB2 : Hid (Below w.heap.size w wr) := hb
        have hiS : i < (shortP g i k).length := by rw [shortP_len]; exact hlt
        by_cases hltk : k < g[i].kids.length
        · obtain ⟨hkl1, hkl2⟩ := shortP_kid g i k hlt hltk
          obtain ⟨b, cap', blk, capk, e, hlb, hbz, hSb, hbkz, hne, hkc, hkm, c2, dk, fk, hset⟩ := ho.kidAt i hiS k (by rw [hkl1]; exact hltk)
          rw [hkl1] at c2 hkc
          rw [hkl2] at dk
          simp only [Value.slice.injEq] at e
          obtain ⟨rfl, -, -⟩ := e
          obtain ⟨hke, hkx⟩ := kidAt_get HG.out i hlt k hltk
          have HSTEP := mkHid (shortP_step g i k hlt hltk)
          obtain ⟨x, hx⟩ : ∃ x, x = kidAt g i k := ⟨_, rfl⟩
          rw [hke, ← hx] at dk HSTEP
          rw [← hx] at hkx
          have HSET : Hid (∀ W, Below wr.heap.size wr W → OwnC (W.setCell ⟨blk, k, none⟩ (.int .i64 (skipN g x : Int))) w.heap.size (fun b => w.heap.size ≤ b) (shortP g i (k + 1)) (.slice (some ⟨b, 0, none⟩) g.length capg) ∧ Below w.heap.size w (W.setCell ⟨blk, k, none⟩ (.int .i64 (skipN g x : Int)))) := fun W hW => by
            have h := hset (skipN g x : Int)
            have e : setKid (shortP g i k) i k (skipN g x : Int) = shortP g i (k + 1) := by have h := HSTEP.out; rw [Int.toNat_natCast] at h; exact h
            rw [e] at h
            exact ⟨h.next (fun _ h _ => h) (fun j _ hz => set_congr (hW.block j (by rw [size_setCell] at hz; exact hz)) _ _) (fun j _ hz => set_congr (hW.block j (by rw [size_setCell] at hz; exact hz)) _ _), (HB2.out.trans (hW.mono HB2.out.size)).setCell hSb _⟩
          have HNE : Hid (∀ W : World, W.cell? ⟨b, i * 3 + 2, none⟩ = some (.slice (some ⟨blk, 0, none⟩) g[i].kids.length capk) → (W.setCell ⟨blk, k, none⟩ (.int .i64 (skipN g x : Int))).cell? ⟨b, i * 3 + 2, none⟩ = some (.slice (some ⟨blk, 0, none⟩) g[i].kids.length capk)) := fun W h => (World.cell?_of_block (Below.heap_setCell _ _ _ _ hne)).trans h
          have hkI : (k : Int) < (g[i].kids.length : Int) := by omega
          have hiI : (i : Int) < (g.length : Int) := by omega
          have c2d : wr.drew.cell? ⟨b, i * 3 + 2, none⟩ = some (.slice (some ⟨blk, 0, none⟩) g[i].kids.length capk) := c2
          have dkd : wr.drew.cell? ⟨blk, k, none⟩ = some (.int .i64 (x : Int)) := dk
          unfold maxLen at hkm
          clear ho hb hset hx hke hkl1 hkl2 hne hlb hSb
          go_wp2_with fail
          go_region_with (first
              | (go_at_call 92; refine (l5Skip_calls g x _ _ ((HK.out.next HB2.out).drew) HG.out hkx).mono ?_; rintro e w5 ⟨rfl, hb5⟩; have HB5 : Hid (Below wr.heap.size wr w5) := ((Below.refl _ _).drew).trans hb5; have n2 := (HB5.out.cell (p := ⟨b, i * 3 + 2, none⟩) hbz).trans c2; have n3 := (HB5.out.cell (p := ⟨blk, k, none⟩) hbkz).trans dk; have nf := (HB5.out.frozen (p := ⟨blk, k, none⟩) hbkz).trans fk; clear hb5))
          all_goals
            have HFIN := mkHid (HSET.out w5 HB5.out)
            clear n2 n3 nf
            go_wp2_with fail
            go_roundw
            case rel => exact ⟨k + 1, by omega, by go_num, HFIN.out.1, HFIN.out.2⟩
            case measure => simp [intOf]; omega
        · have hke : k = g[i].kids.length := by omega
          have HN : Hid (OwnC wr w.heap.size (fun b => w.heap.size ≤ b) (shortP g (i + 1) 0) (.slice adg g.length capg)) := by
            rw [← shortP_next g i k hlt (by omega)]; exact ho
          obtain ⟨bl, off, r2, e, -, -, c2, -, -, hkk⟩ := ((ho.own fun k h _ => h).inn).at' i hiS
          obtain ⟨adk, capk, rfl, -, -, -⟩ := id hkk
          rw [shortP_klen g i k hlt] at c2
          simp only [Value.slice.injEq] at e
          obtain ⟨rfl, -, -⟩ := e
          clear ho hb hkk
          go_wp2_with fail
          go_roundw
          case rel => exact ⟨i + 1, by omega, by go_num, HN.out, HB2.out⟩
          case measure => simp [intOf]; omega
    · have hie : i = g.length := by omega
      have HE : Hid (OwnC wo w.heap.size (fun b => w.heap.size ≤ b) (shortG g) (.slice adg g.length capg)) := by
        have h := HO.out
        rw [hie, shortP_end] at h; exact h
      clear ho hb hie
      go_wp2_with fail
      go_ret
      exact ⟨_, rfl, HE.out, HB.out⟩
end Go.Proofs.Ytglpehelmlehiaa
/-
  THE MODEL's l5Collect AND CollectGraph.
-/
namespace Go.Proofs.Ytglpehelmlehiaa
set_option linter.unusedVariables false
set_option linter.unusedSimpArgs false
open Go.RowKit

set_option maxRecDepth 100000 in
set_option maxHeartbeats 1600000 in
theorem l5Collect_calls (g : List Ce) (rs : List Nat) (v rv : Value) (w : World) (hk : CIn w g v) (hr : IIn w (plI rs) rv) (hg : graphB g 6 = true) (hlt : ∀ x ∈ rs, x < g.length) (h20 : rs.length ≤ 20) :
    Calls Try.prog 68 #[v, rv] w (NewGI (copyG (shortG g) (rs.map (skipN g))) (topsG (shortG g) (rs.map (skipN g))) w) := by
  have HK : Hid (CIn w g v) := hk
  have HR : Hid (IIn w (plI rs) rv) := hr
  have HG := mkHid hg
  have HLT := mkHid hlt
  have H20 := mkHid h20
  obtain ⟨ad, cap, rfl, -, -, -⟩ := hk
  obtain ⟨adr, capr, rfl, hlr, hmr⟩ := pl_form hr
  unfold maxLen at hmr
  have HS0 : Hid (Stk (w.alloc (.cells #[] 3)) w.heap.size ((rs.take 0).map (skipN g)) (.slice (some ⟨w.heap.size, 0, none⟩) 0 0)) := stk_zero (Deep.blk_alloc_new w _) (Nat.le_refl _)
  clear hr hg hlt
  go_enter Try.func68, Try.ntmps68
  go_wp2_with fail
  go_loopw [6, 7] (fun top z wr => ∃ k : Nat, k ≤ rs.length ∧ z = .int .i64 k ∧ Stk wr w.heap.size ((rs.take k).map (skipN g)) top ∧ Below w.heap.size w wr) (fun _ z _ => rs.length - (intOf z).toNat)
  case atStart => exact ⟨0, Nat.zero_le _, rfl, HS0.out, box_below _ _⟩
  case round =>
    obtain ⟨k, hk, rfl, hst, hb⟩ := hrel
    have HS := mkHid hst
    have HB : Hid (Below w.heap.size w wr) := hb
    have hsw := hb.size
    have hjl : ((rs.take k).map (skipN g)).length = k := by rw [List.length_map, List.length_take]; omega
    have HJL := mkHid hjl
    obtain ⟨adp, capp, rfl⟩ : ∃ ad cap, u6 = .slice ad k cap := by obtain ⟨x, y, e⟩ := hst.len; rw [hjl] at e; exact ⟨x, y, e⟩
    clear hst hjl
    by_cases hlt : k < rs.length
    · obtain ⟨bl, off, x, rfl, hbl, hx, hxm, d0w⟩ := pl_at HR.out k hlt
      have d0 := (hb.cell (p := ⟨bl, off + k, none⟩) hbl).trans d0w
      have hxl := HLT.out x hxm
      have HX := mkHid hx
      clear hb hx hxm d0w
      go_wp2_with fail
      refine (l5Skip_calls g x _ _ (HK.out.next HB.out) HG.out hxl).mono ?_
      rintro e w1 ⟨rfl, hb1⟩
      have HB1 : Hid (Below w.heap.size w w1) := HB.out.trans (hb1.mono HB.out.size)
      have HS1 : Hid (Stk w1 w.heap.size ((rs.take k).map (skipN g)) (.slice adp k capp)) := HS.out.next hb1
      have hzw := HB1.out.size
      obtain ⟨m, hm⟩ : ∃ m, m = skipN g x := ⟨_, rfl⟩
      have HM := mkHid hm
      rw [← hm]
      have HS3 : Hid (Stk (w1.alloc (.cells #[.int .i64 (m : Int)] 3)) w.heap.size ((rs.take k).map (skipN g)) (.slice adp k capp)) := HS1.out.alloc _
      have HK3 : Hid (IIn (w1.alloc (.cells #[.int .i64 (m : Int)] 3)) [(m : Int)] (.slice (some ⟨w1.heap.size, 0, none⟩) 1 1)) := one_in w1 m
      have HLO : Hid (w.heap.size ≤ (w1.alloc (.cells #[.int .i64 (m : Int)] 3)).heap.size) := by rw [Hid, Deep.nblk_alloc]; omega
      clear hb1 d0 hm
      go_wp2_with (at_builtin; go_must (refine wpList_push rfl _ _ rfl _ w.heap.size ((rs.take k).map (skipN g)) [m] (.slice adp k capp) (.slice (some ⟨w1.heap.size, 0, none⟩) 1 1) rfl HS3.out rfl HK3.out rfl HLO.out (by rw [HJL.out]; simp; have := H20.out; omega) ?_); go_must (intro v' w5 hst5 hg5); go_must (have HS5 := mkHid hst5); go_must (have HB5 : Hid (Below w.heap.size w w5) := push_below HS3.out (HB1.out.alloc hzw _) (Nat.le_refl _) hg5 (Nat.le_refl _)); clear hst5 hg5)
      have HS6 : Hid (Stk w5 w.heap.size ((rs.take (k + 1)).map (skipN g)) v') := by
        rw [Hid, take_snoc HX.out, List.map_append, List.map_singleton, ← HM.out]; exact HS5.out
      go_roundw
      case rel => first | exact ⟨k + 1, by omega, by go_num, HS6.out, HB5.out⟩ | ((repeat apply Exists.intro); exact ⟨⟨k + 1, by omega, by go_num, HS6.out, HB5.out⟩, rfl⟩)
      case measure => simp [intOf]; omega
    · have hke : k = rs.length := by omega
      have HV : Hid (IIn wr (plI (rs.map (skipN g))) (.slice adp k capp)) := by
        have h := HS.out
        rw [hke, List.take_length] at h
        rw [hke]; exact h.pin
      clear hb hke
      go_wp2_with fail
      refine (l5Short_calls g _ _ (HK.out.next HB.out) HG.out).mono ?_
      rintro e w1 ⟨gv, rfl, ho, hb1⟩
      have HB1 : Hid (Below w.heap.size w w1) := HB.out.trans (hb1.mono HB.out.size)
      have HV1 := mkHid (HV.out.next hb1)
      have HO := mkHid (ho.cin fun k h _ => h)
      clear ho hb1
      go_wp2_with fail
      refine (l5CopyH_calls (shortG g) (rs.map (skipN g)) _ _ _ HO.out HV1.out (shortG_valid HG.out) (fun x hx => ?_) (by rw [List.length_map]; exact H20.out)).mono ?_
      · simp only [List.mem_map] at hx
        obtain ⟨a, ha, rfl⟩ := hx
        rw [shortG_len]
        exact skip_lt HG.out (HLT.out a ha)
      rintro e w2 ⟨gv2, tv2, rfl, ho, hs, hb2⟩
      have HB2 : Hid (Below w.heap.size w w2) := HB1.out.trans (hb2.mono HB1.out.size)
      have HO2 := mkHid (ho.lower HB1.out.size (S' := fun b => w.heap.size ≤ b) fun b hb => Nat.le_trans HB1.out.size hb)
      have HS2 := mkHid (hs.lower HB1.out.size)
      clear ho hs hb2
      go_wp2_with fail
      go_ret2
      exact ⟨_, _, rfl, HO2.out, HS2.out, HB2.out⟩

set_option maxHeartbeats 800000 in
theorem specColl_calls (g : List Ce) (rs : List Int) (v rv : Value) (w : World) (hk : CIn w g v) (hr : IIn w rs rv) :
    Calls Try.prog 32 #[v, rv] w (GotGI (collO g rs) (rootB g rs) w) := by
  have HK : Hid (CIn w g v) := hk
  have HR : Hid (IIn w rs rv) := hr
  clear hk hr
  go_enter Try.func32, Try.ntmps32
  go_wp2_with fail
  refine (l5Right_calls g rs _ _ _ HK.out HR.out).mono ?_
  rintro e w1 ⟨rfl, hb1⟩
  have HB1 : Hid (Below w.heap.size w w1) := hb1
  clear hb1
  cases hg : rootB g rs with
  | false =>
    have HV := mkHid (collO_no hg)
    have HT := mkHid hg
    clear hg
    go_wp2_with fail
    go_ret3
    rw [HV.out, HT.out]
    exact ⟨_, _, rfl, cin_nil _ _ 0 (by simp [maxLen]), iin_nil _ _ 0 (by simp [maxLen]), (HB1.out.alloc HB1.out.size _).alloc (by rw [Deep.nblk_alloc]; have := HB1.out.size; omega) _⟩
  | true =>
    have HT := mkHid hg
    have HV := mkHid (collO_yes hg)
    have HR2 : Hid (IIn w1 (plI (natL rs)) rv) := by
      have h := HR.out.next HB1.out
      rw [root_back hg] at h
      exact h
    clear hg
    go_wp2_with fail
    refine (l5Collect_calls g (natL rs) _ _ _ (HK.out.next HB1.out) HR2.out (rootB_iff.1 HT.out).1 (root_lt HT.out) (by rw [natL_len]; exact (rootB_iff.1 HT.out).2.1)).mono ?_
    rintro e w2 ⟨gv, tv, rfl, ho, hs, hb2⟩
    have HO := mkHid (ho.cin fun k h _ => h)
    have HS := mkHid hs.pin
    have HB2 : Hid (Below w.heap.size w w2) := HB1.out.trans (hb2.mono HB1.out.size)
    clear ho hs hb2
    go_wp2_with fail
    go_ret3
    rw [HV.out, HT.out]
    exact ⟨_, _, rfl, HO.out, HS.out, HB2.out⟩
end Go.Proofs.Ytglpehelmlehiaa
