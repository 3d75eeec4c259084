/-
  THE LAWS' OWN MARKS IN NEEDS (markBoolSS, heldBoolSS).
-/
import Derived.Test.YtocnkjicmchbdaaNeedOwn
namespace Go.Proofs.Ytocnkjicmchbdaa
set_option linter.unusedVariables false
set_option linter.unusedSimpArgs false
open Go.RowKit

/-- a mark -/
def mk3 (k : Int) : Bool := k % 3 == 0
/-- a row of marks -/
def markR (n : Nat) (k : Int) : List Bool := (List.range n).map fun (j : Nat) => mk3 (k + (j : Int))
theorem markR_length (n : Nat) (k : Int) : (markR n k).length = n := by simp [markR]
theorem markR_at {n : Nat} {k : Int} {j : Nat} (h : j < (markR n k).length) : (markR n k)[j] = mk3 (k + (j : Int)) := by simp [markR]
/-- rows of marks, one behind the other -/
def markG (ns : List Nat) (k : Int) : List (List Bool) := (List.range ns.length).map fun i => markR ((ns[i]?).getD 0) (k + ((ns.take i).sum : Nat))
theorem markG_length (ns : List Nat) (k : Int) : (markG ns k).length = ns.length := by simp [markG]
theorem markG_at {ns : List Nat} {k : Int} {i : Nat} (h : i < ns.length) (h' : i < (markG ns k).length) : (markG ns k)[i] = markR ns[i] (k + ((ns.take i).sum : Nat)) := by
  simp [markG, h]
theorem sum_take_succ (ns : List Nat) (i : Nat) (h : i < ns.length) : (ns.take (i + 1)).sum = (ns.take i).sum + ns[i] := by
  rw [List.take_succ_eq_append_getElem h, List.sum_append]; simp
theorem sum_take_le (ns : List Nat) (i : Nat) : (ns.take i).sum ≤ ns.sum := by
  conv => rhs; rw [← List.take_append_drop i ns, List.sum_append]
  omega
/-- row i gets other values -/
theorem NOwn.row {w : World} {lo : Nat} {g : List (List Bool)} {ad : Option Addr} {n cap : Nat} (h : NOwn w lo g (.slice ad n cap)) (i : Nat) (hi : i < g.length) :
    ∃ b rb rc, ad = some ⟨b, 0, none⟩ ∧ w.cell? ⟨b, i, none⟩ = some (.slice (some ⟨rb, 0, none⟩) g[i].length rc) ∧ lo ≤ rb ∧ RowAt w rb rc g[i] ∧
      ∀ (r : List Bool) (w' : World), r.length = g[i].length → RowAt w' rb rc r → (∀ k, k ≠ rb → w'.heap[k]? = w.heap[k]?) → NOwn w' lo (g.set i r) (.slice ad n cap) := by
  obtain ⟨bs, h1, h2, h3, h4⟩ := h
  have hi2 : i < bs.length := by omega
  rcases id h3.2 with ⟨e, h⟩ | ⟨b, cap', cur, e, hb, hh, hn, hc, hs, ht⟩
  · omega
  simp only [Value.slice.injEq] at e
  obtain ⟨rfl, rfl, rfl⟩ := e
  have hc0 := own_cells h3 i _ (cellsN_at i hi hi2)
  rw [WideShapes.add_plain, Nat.zero_add] at hc0
  obtain ⟨hlo, hra⟩ := h4 i hi hi2
  have hne : b ≠ bs[i].1 := by
    rintro rfl
    exact hra.no hh
  refine ⟨b, _, _, rfl, hc0, hlo, hra, fun r w' hrl hr' hk => ⟨bs, by rw [List.length_set]; exact h1, h2, ?_, fun j hj hj2 => ?_⟩⟩
  · have e : cellsN (g.set i r) bs = cellsN g bs := by
      apply List.ext_getElem?
      intro k
      by_cases hk : k < g.length
      · rw [cellsN_at k hk (by omega), cellsN_at k (by rw [List.length_set]; exact hk) (by omega)]
        congr 2
        rw [List.getElem_set]
        split
        · rename_i e; subst e; exact hrl
        · rfl
      · unfold cellsN
        rw [List.getElem?_eq_none (by simp; omega), List.getElem?_eq_none (by simp; omega)]
    rw [e, List.length_set]
    exact ⟨h3.1, Or.inr ⟨b, cap, cur, rfl, hb, (hk b hne).trans hh, hn, hc, hs, ht⟩⟩
  · rw [List.length_set] at hj
    refine ⟨(h4 j hj hj2).1, ?_⟩
    by_cases e : i = j
    · subst e
      simp only [List.getElem_set_self]
      exact hr'
    · rw [List.getElem_set_ne e]
      have hne2 : bs[j].1 ≠ bs[i].1 := by
        intro hbb
        have hp := List.pairwise_iff_getElem.1 h2
        rcases Nat.lt_or_gt_of_ne e with h | h
        · exact hp i j (by simpa using hi2) (by simpa using hj2) h (by simpa using hbb.symm)
        · exact hp j i (by simpa using hj2) (by simpa using hi2) h (by simpa using hbb)
      exact (h4 j hj hj2).2.blk (hk _ hne2)
/-- nothing but one block is written -/
def But1 (b : Nat) (w w' : World) : Prop := w'.os = w.os ∧ w'.tape = w.tape ∧ w'.output = w.output ∧ w'.heap.size = w.heap.size ∧ ∀ k, k ≠ b → w'.heap[k]? = w.heap[k]?
theorem But1.refl (b : Nat) (w : World) : But1 b w w := ⟨rfl, rfl, rfl, rfl, fun _ _ => rfl⟩
theorem But1.set {b : Nat} {w w' : World} (h : But1 b w w') (o : Nat) (u : Value) : But1 b w (w'.setCell ⟨b, o, none⟩ u) :=
  ⟨h.1, h.2.1, h.2.2.1, by rw [size_setCell]; exact h.2.2.2.1, fun k hk => (Below.heap_setCell _ _ _ _ hk).trans (h.2.2.2.2 k hk)⟩
theorem But1.below {b lo : Nat} {w w' : World} (h : But1 b w w') (hl : lo ≤ b) : Below lo w w' := ⟨h.1, h.2.1, h.2.2.1, by rw [h.2.2.2.1]; exact Nat.le_refl _, fun k hk => h.2.2.2.2 k (by omega)⟩

set_option maxHeartbeats 400000 in
theorem markBools_calls (r : List Bool) (b cap : Nat) (k : Int) (w : World) (hr : RowAt w b cap r) (h0 : 0 ≤ k) (h1 : k + (r.length : Int) ≤ 1152921504606846976) :
    Calls Try.prog 69 #[.slice (some ⟨b, 0, none⟩) r.length cap, .int .i64 k] w fun e w' => e = .returned (.int .i64 (k + (r.length : Int))) ∧ RowAt w' b cap (markR r.length k) ∧ But1 b w w' := by
  obtain ⟨n, hn⟩ : ∃ n, n = r.length := ⟨_, rfl⟩
  rw [← hn] at h1 ⊢
  have HS : Hid (RowAt w b cap ((List.range n).map fun (j : Nat) => if j < 0 then mk3 (k + (j : Int)) else (r[j]?).getD false)) := by
    have e : ((List.range n).map fun (j : Nat) => if j < 0 then mk3 (k + (j : Int)) else (r[j]?).getD false) = r := by
      refine List.ext_getElem (by simp [hn]) fun i a b => by simp [b]
    rw [e]; exact hr
  have hcap : n ≤ cap := by rw [hn]; exact hr.1
  have hcm := hr.2.1
  unfold maxLen at hcm
  clear hr
  go_enter Try.func69, Try.ntmps69
  go_wp2_with fail
  go_loopw [1, 5] (fun q i wr => ∃ j : Nat, j ≤ n ∧ i = .int .i64 j ∧ q = .int .i64 (k + j) ∧ RowAt wr b cap ((List.range n).map fun (x : Nat) => if x < j then mk3 (k + (x : Int)) else (r[x]?).getD false) ∧ But1 b w wr) (fun _ i _ => n - (intOf i).toNat)
  case atStart => exact ⟨0, Nat.zero_le _, rfl, by simp, HS.out, But1.refl _ _⟩
  case round =>
    obtain ⟨j, hj, rfl, rfl, hrw, hbt⟩ := hrel
    have HR := mkHid hrw
    have HB := mkHid hbt
    by_cases hlt : j < n
    · obtain ⟨z, hz⟩ : ∃ z, z = k + (j : Int) := ⟨_, rfl⟩
      have HR2 : Hid (RowAt (wr.setCell ⟨b, j, none⟩ (.bool (mk3 z))) b cap ((List.range n).map fun (x : Nat) => if x < j + 1 then mk3 (k + (x : Int)) else (r[x]?).getD false)) := by
        have h := hrw.set j (mk3 z)
        have e : (((List.range n).map fun (x : Nat) => if x < j then mk3 (k + (x : Int)) else (r[x]?).getD false).set j (mk3 z)) = ((List.range n).map fun (x : Nat) => if x < j + 1 then mk3 (k + (x : Int)) else (r[x]?).getD false) := by
          refine List.ext_getElem (by simp) fun i a c => ?_
          rw [List.getElem_set]
          split
          · rename_i e; subst e; simp [hz]
          · rename_i e
            have : (i < j + 1) = (i < j) := by apply propext; omega
            simp [this]
        rwa [e] at h
      have HB2 : Hid (But1 b w (wr.setCell ⟨b, j, none⟩ (.bool (mk3 z)))) := hbt.set j _
      obtain ⟨hl1, -, fr, hrr, hfr⟩ := hrw
      have c0 := hrr.cell (i := j) (by omega)
      rw [hfr j (by simpa using hlt)] at c0
      have f0 := hrr.frozen j
      have hz0 : 0 ≤ z := by omega
      have hz1 : z + 1 ≤ 1152921504606846976 := by omega
      have HZ := mkHid hz
      rw [← hz]
      generalize hbb : ((List.range n).map fun (x : Nat) => if x < j then mk3 (k + (x : Int)) else (r[x]?).getD false)[j]'(by simpa using hlt) = bb at c0
      clear hbt hrr hfr hl1 hz hbb
      go_wp2_with fail
      go_roundw
      case rel => exact ⟨j + 1, by omega, by go_num, congrArg (Value.int .i64) (by rw [HZ.out]; push_cast; omega), HR2.out, HB2.out⟩
      case measure => simp [intOf]; omega
    · have hje : j = n := by omega
      have HV : Hid (RowAt wr b cap (markR n k)) := by
        have e : ((List.range n).map fun (x : Nat) => if x < j then mk3 (k + (x : Int)) else (r[x]?).getD false) = markR n k := by
          refine List.ext_getElem (by simp [markR]) fun i a c => ?_
          have : i < j := by rw [hje]; simpa using a
          simp [markR, this]
        rw [← e]; exact HR.out
      have HJ : Hid (k + (n : Int) = k + (j : Int)) := by rw [hje]; rfl
      clear hje hrw hbt
      go_wp2_with fail
      go_ret
      exact ⟨ret_int HJ.out.symm, HV.out, HB.out⟩

set_option maxHeartbeats 400000 in
theorem heldBools_calls (n : Nat) (c : Value) (k : Int) (w : World) (hr : BIn w (markR n k) c) (h0 : 0 ≤ k) (h1 : k + (n : Int) ≤ 1152921504606846976) :
    Calls Try.prog 70 #[c, .int .i64 k] w fun e w' => e = .returned (.int .i64 (k + (n : Int))) ∧ Below w.heap.size w w' := by
  have HR := mkHid hr
  obtain ⟨ad, cap, rfl, hl, hm, -⟩ := hr
  unfold maxLen at hm
  rw [markR_length] at hl ⊢
  go_enter Try.func70, Try.ntmps70
  go_wp2_with fail
  go_loopw [1, 5] (fun q i wr => ∃ j : Nat, j ≤ n ∧ i = .int .i64 j ∧ q = .int .i64 (k + j) ∧ Below w.heap.size w wr) (fun _ i _ => n - (intOf i).toNat)
  case atStart => exact ⟨0, Nat.zero_le _, rfl, by simp, Below.refl _ _⟩
  case round =>
    obtain ⟨j, hj, rfl, rfl, hb⟩ := hrel
    have HB := mkHid hb
    by_cases hlt : j < n
    · obtain ⟨bl, off, rfl, -, c0⟩ := (HR.out.next hb).at j (by rw [markR_length]; exact hlt)
      rw [markR_at] at c0
      obtain ⟨z, hz⟩ : ∃ z, z = k + (j : Int) := ⟨_, rfl⟩
      rw [← hz] at c0 ⊢
      have hz0 : 0 ≤ z := by omega
      have hz1 : z + 1 ≤ 1152921504606846976 := by omega
      have HZ := mkHid hz
      unfold mk3 at c0
      have t1 : ((z % 3 == 0) != (z % 3 == 0)) = false := by simp
      clear hb hz
      go_wp2_with fail
      go_roundw
      case rel => exact ⟨j + 1, by omega, by go_num, congrArg (Value.int .i64) (by rw [HZ.out]; push_cast; omega), HB.out⟩
      case measure => simp [intOf]; omega
    · have hje : j = n := by omega
      have HJ : Hid (k + (n : Int) = k + (j : Int)) := by rw [hje]; rfl
      clear hje hb
      go_wp2_with fail
      go_ret
      exact ⟨ret_int HJ.out.symm, HB.out⟩

/-- the first rows are marked -/
def partN (g : List (List Bool)) (k : Int) (i : Nat) : List (List Bool) := (markG (g.map (·.length)) k).take i ++ g.drop i
theorem partN_zero (g : List (List Bool)) (k : Int) : partN g k 0 = g := by simp [partN]
theorem partN_end (g : List (List Bool)) (k : Int) : partN g k g.length = markG (g.map (·.length)) k := by
  unfold partN
  rw [List.drop_length, List.append_nil, List.take_of_length_le (by rw [markG_length, List.length_map]; exact Nat.le_refl _)]
theorem partN_length (g : List (List Bool)) (k : Int) (i : Nat) (h : i ≤ g.length) : (partN g k i).length = g.length := by
  unfold partN
  rw [List.length_append, List.length_take, markG_length, List.length_map, List.length_drop]
  omega
theorem partN_at (g : List (List Bool)) (k : Int) (i : Nat) (h : i < g.length) (h' : i < (partN g k i).length) : (partN g k i)[i] = g[i] := by
  unfold partN at h' ⊢
  rw [List.getElem_append_right (by rw [List.length_take, markG_length, List.length_map]; omega)]
  simp only [List.length_take, markG_length, List.length_map, List.getElem_drop]
  congr 1
  omega
theorem partN_set (g : List (List Bool)) (k : Int) (i : Nat) (h : i < g.length) : (partN g k i).set i (markR g[i].length (k + (((g.map (·.length)).take i).sum : Nat))) = partN g k (i + 1) := by
  have hm : i < (markG (g.map (·.length)) k).length := by rw [markG_length, List.length_map]; exact h
  have e : markR g[i].length (k + (((g.map (·.length)).take i).sum : Nat)) = (markG (g.map (·.length)) k)[i] := by
    rw [markG_at (by rw [List.length_map]; exact h)]
    simp
  rw [e]
  unfold partN
  rw [List.take_succ_eq_append_getElem hm, List.drop_eq_getElem_cons h, List.set_append_right _ _ (by rw [List.length_take]; omega)]
  have hl : ((markG (g.map (·.length)) k).take i).length = i := by rw [List.length_take]; omega
  rw [hl, Nat.sub_self, List.set_cons_zero, List.append_assoc, List.singleton_append]

set_option maxRecDepth 100000 in
set_option maxHeartbeats 800000 in
theorem markNeeds_calls (g : List (List Bool)) (lo : Nat) (c : Value) (k : Int) (w : World) (hr : NOwn w lo g c) (h0 : 0 ≤ k) (h1 : k ≤ 576460752303423488) (h2 : g.length ≤ 1048576) (h3 : (g.map (·.length)).sum ≤ 1048576) :
    Calls Try.prog 23 #[c, .int .i64 k] w fun e w' => e = .returned (.int .i64 (k + ((g.map (·.length)).sum : Nat))) ∧ NOwn w' lo (markG (g.map (·.length)) k) c ∧ Below lo w w' := by
  have HS : Hid (NOwn w lo (partN g k 0) c) := by rw [partN_zero]; exact hr
  obtain ⟨ad, cap, rfl, hl, hm⟩ := hr.form
  unfold maxLen at hm
  clear hr
  go_enter Try.func23, Try.ntmps23
  go_wp2_with fail
  go_loopw [1, 5] (fun q i wr => ∃ (j : Nat) (z : Int), j ≤ g.length ∧ i = .int .i64 j ∧ q = .int .i64 z ∧ Hid (z = k + (((g.map (·.length)).take j).sum : Nat)) ∧ NOwn wr lo (partN g k j) (.slice ad g.length cap) ∧ Below lo w wr) (fun _ i _ => g.length - (intOf i).toNat)
  case atStart => exact ⟨0, k, Nat.zero_le _, rfl, rfl, by simp [Hid], HS.out, Below.refl _ _⟩
  case round =>
    obtain ⟨j, z, hj, rfl, rfl, HZ, hown, hb⟩ := hrel
    have HO := mkHid hown
    have HB := mkHid hb
    clear hown hb
    by_cases hlt : j < g.length
    · have hjp : j < (partN g k j).length := by rw [partN_length _ _ _ hj]; exact hlt
      obtain ⟨b, rb, rc, rfl, c0, hrb, hra, hset⟩ := HO.out.row j hjp
      rw [partN_at g k j hlt hjp] at c0 hra hset
      have hs1 := sum_take_succ (g.map (·.length)) j (by rw [List.length_map]; exact hlt)
      have hs2 := sum_take_le (g.map (·.length)) (j + 1)
      rw [List.getElem_map] at hs1
      have hzz := HZ.out
      have HMB := mkHid (markBools_calls g[j] rb rc z wr hra (by omega) (by omega))
      have HSET := mkHid hset
      have HS1 := mkHid hs1
      obtain ⟨n, hn⟩ : ∃ n, n = g[j].length := ⟨_, rfl⟩
      rw [← hn] at c0 HMB
      have HN := mkHid hn
      clear hset hra hs1 hs2 hzz hn
      go_wp2_with fail
      refine HMB.out.mono ?_
      rintro e w3 ⟨rfl, hr3, hb3⟩
      have HO3 : Hid (NOwn w3 lo (partN g k (j + 1)) (.slice (some ⟨b, 0, none⟩) g.length cap)) := by
        have h := HSET.out (markR n z) w3 (by rw [markR_length, HN.out]) hr3 hb3.2.2.2.2
        rw [HZ.out, HN.out, partN_set g k j hlt] at h
        exact h
      have HB3 : Hid (Below lo w w3) := HB.out.trans (hb3.below hrb)
      have HZ3 : Hid (z + (n : Int) = k + (((g.map (·.length)).take (j + 1)).sum : Nat)) := by rw [Hid, HZ.out, HS1.out, HN.out]; push_cast; omega
      clear hr3 hb3 c0
      go_wp2_with fail
      go_roundw
      case rel => exact ⟨j + 1, _, by omega, by go_num, rfl, HZ3, HO3.out, HB3.out⟩
      case measure => simp [intOf]; omega
    · have hje : j = g.length := by omega
      have HV : Hid (NOwn wr lo (markG (g.map (·.length)) k) (.slice ad g.length cap)) := by rw [← partN_end, ← hje]; have := HO.out; rw [hje] at this ⊢; exact this
      have HJ : Hid (k + ((g.map (·.length)).sum : Nat) = z) := by rw [Hid, HZ.out, hje, List.take_of_length_le (by rw [List.length_map]; exact Nat.le_refl _)]
      clear hje
      go_wp2_with fail
      go_ret
      exact ⟨ret_int HJ.out.symm, HV.out, HB.out⟩

set_option maxRecDepth 100000 in
set_option maxHeartbeats 800000 in
theorem heldNeeds_calls (ns : List Nat) (c : Value) (k : Int) (w : World) (hr : NIn w (markG ns k) c) (h0 : 0 ≤ k) (h1 : k ≤ 576460752303423488) (h3 : ns.sum ≤ 1048576) :
    Calls Try.prog 24 #[c, .int .i64 k] w fun e w' => e = .returned (.int .i64 (k + (ns.sum : Nat))) ∧ Below w.heap.size w w' := by
  have HR := mkHid hr
  obtain ⟨ad, cap, rfl, hl, hm, -⟩ := hr
  unfold maxLen at hm
  rw [markG_length] at hl HR ⊢
  go_enter Try.func24, Try.ntmps24
  go_wp2_with fail
  go_loopw [1, 5] (fun q i wr => ∃ (j : Nat) (z : Int), j ≤ ns.length ∧ i = .int .i64 j ∧ q = .int .i64 z ∧ Hid (z = k + ((ns.take j).sum : Nat)) ∧ Below w.heap.size w wr) (fun _ i _ => ns.length - (intOf i).toNat)
  case atStart => exact ⟨0, k, Nat.zero_le _, rfl, rfl, by simp [Hid], Below.refl _ _⟩
  case round =>
    obtain ⟨j, z, hj, rfl, rfl, HZ, hb⟩ := hrel
    have HB := mkHid hb
    by_cases hlt : j < ns.length
    · obtain ⟨b, off, rv, rfl, -, c0, hrow⟩ := (HR.out.next hb).at j (by rw [markG_length]; exact hlt)
      rw [markG_at hlt, ← HZ.out] at hrow
      have hs1 := sum_take_succ ns j hlt
      have hs2 := sum_take_le ns (j + 1)
      have hzz := HZ.out
      have hz0 : 0 ≤ z := by omega
      have hnn : z + (ns[j] : Int) ≤ 1152921504606846976 := by omega
      have HMB := mkHid (heldBools_calls ns[j] rv z wr hrow hz0 hnn)
      obtain ⟨adr, capr, rfl, -, -, -⟩ := hrow
      have HS1 := mkHid hs1
      obtain ⟨n, hn⟩ : ∃ n, n = ns[j] := ⟨_, rfl⟩
      rw [← hn] at HMB hnn c0
      have HN := mkHid hn
      have hnz : ¬ (z + (n : Int) < 0) := by omega
      clear hs1 hs2 hzz hn hb
      generalize (markR n z).length = m at c0 HMB
      go_wp2_with fail
      refine HMB.out.mono ?_
      rintro e w3 ⟨rfl, hb3⟩
      have HB3 : Hid (Below w.heap.size w w3) := HB.out.trans (hb3.mono HB.out.size)
      have HZ3 : Hid (z + (n : Int) = k + ((ns.take (j + 1)).sum : Nat)) := by rw [Hid, HZ.out, HS1.out, HN.out]; push_cast; omega
      clear hb3 c0
      go_wp2_with fail
      go_roundw
      case rel => exact ⟨j + 1, _, by omega, by go_num, rfl, HZ3, HB3.out⟩
      case measure => simp [intOf]; omega
    · have hje : j = ns.length := by omega
      have HJ : Hid (k + (ns.sum : Nat) = z) := by rw [Hid, HZ.out, hje, List.take_of_length_le (Nat.le_refl _)]
      clear hje hb
      go_wp2_with fail
      go_ret
      exact ⟨ret_int HJ.out.symm, HB.out⟩
end Go.Proofs.Ytocnkjicmchbdaa
