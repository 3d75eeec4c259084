/-
  THE MODEL's TEXTS: l1Letter, l16Dec, l1Text.
-/
import Derived.Test.YtjdlfpdljmohiaaMb3
import Derived.Test.YtjdlfpdljmohiaaMb1
import Derived.BigQuiet
import Derived.WalkSmall
import Derived.Deep.QuietTactic
import Derived.Laws.IdiomStrings
import Derived.Test.YtjdlfpdljmohiaaProg
import Derived.Deep.RegionWith
import Derived.Deep.DeepMust
import Derived.Test.YtjdlfpdljmohiaaMb4
namespace Go.Proofs.Ytjdlfpdljmohiaa
set_option linter.unusedVariables false
set_option linter.unusedSimpArgs false
open Go.RowKit

theorem ret_str {a b : ByteArray} (h : a = b) : Ending.returned (.string a) = .returned (.string b) := by rw [h]
/-- a byte -/
def byt (z : Nat) : UInt8 := UInt8.ofNat z
theorem byt_nat {z : Nat} (h : z < 256) : ((byt z).toNat : Int) = (z : Int) := by unfold byt; simp; omega
/-- 'string([]byte{b})' -/
theorem conv1 (z : Nat) (h : z < 256) (W : World) : (convert 22 9 (.slice (some ⟨W.heap.size, 0, none⟩) 1 1)).run Try.prog (W.alloc (.cells #[.int .u8 (z : Int)] 5)) = .ok (.string ⟨#[byt z]⟩) (W.alloc (.cells #[.int .u8 (z : Int)] 5)) := by
  have h2 := run_convert_bytes_back (P := Try.prog) (W.alloc (.cells #[.int .u8 (z : Int)] 5)) 22 9 5 ⟨W.heap.size, 0, none⟩ 1 [byt z] Try.underlying22 Try.underlying5 Try.underlying9 fun j hj => by
    have hj0 : j = 0 := by simpa using hj
    subst hj0
    rw [WideShapes.add_plain]
    have := box_cell W #[.int .u8 (z : Int)] 5 0 _ rfl
    rw [this]
    simp only [List.getElem_cons_zero]
    rw [byt_nat h]
    rfl
  exact h2

set_option maxRecDepth 100000 in
set_option maxHeartbeats 400000 in
theorem l1Letter_calls (first n : Nat) (w : World) (h1 : n ≤ 25) (hf2 : first ≤ 97) :
    Calls Try.prog 104 #[.int .u8 (first : Int), .int .i64 (n : Int)] w fun e w' => e = .returned (.string ⟨#[byt (first + n)]⟩) ∧ Below w.heap.size w w' := by
  have hcv := conv1 (first + n) (by omega)
  obtain ⟨z, hz⟩ : ∃ z, z = first + n := ⟨_, rfl⟩
  rw [← hz] at hcv ⊢
  have hw1 : IntKind.u8.wrap (n : Int) = (n : Int) := IntWalk.u8_in _ (by omega)
  have hw2 : IntKind.u8.wrap ((first : Int) + (n : Int)) = (z : Int) := by rw [IntWalk.u8_in _ (by omega)]; omega
  clear hz
  go_enter Try.func104, Try.ntmps104
  go_wp2_with fail
  go_ret
  exact ⟨rfl, box_below _ _⟩

/-- a number in decimal -/
def decT (m : Nat) : List UInt8 := if m < 10 then [byt (48 + m)] else decT (m / 10) ++ [byt (48 + m % 10)]
theorem decT_one {m : Nat} (h : m < 10) : decT m = [byt (48 + m)] := by rw [decT, if_pos h]
theorem decT_more {m : Nat} (h : ¬ m < 10) : decT m = decT (m / 10) ++ [byt (48 + m % 10)] := by rw [decT, if_neg h]

set_option maxRecDepth 100000 in
set_option maxHeartbeats 800000 in
theorem l16Dec_calls (n : Nat) (w : World) (hn : n ≤ 999) :
    Calls Try.prog 105 #[.int .i64 (n : Int)] w fun e w' => e = .returned (.string ⟨(decT n).toArray⟩) ∧ Below w.heap.size w w' := by
  have hneg : ¬ ((n : Int) < -9223372036854775807) := by omega
  have hneg2 : ¬ ((n : Int) < 0) := by omega
  go_enter Try.func105, Try.ntmps105
  go_wp2_with fail
  go_loopw [0, 3] (fun nv ov wr => ∃ (m : Nat) (B : ByteArray) (ds : List UInt8), nv = .int .i64 (m : Int) ∧ ov = .string B ∧ Hid (B = ⟨ds.toArray⟩) ∧ decT n = decT m ++ ds ∧ B.size + m ≤ n ∧ Below w.heap.size w wr) (fun nv _ _ => (intOf nv).toNat)
  case atStart => exact ⟨n, ⟨#[]⟩, [], rfl, rfl, rfl, by simp, by simp [ByteArray.size], Below.refl _ _⟩
  case round =>
    obtain ⟨m, B, ds, rfl, rfl, HBd, hdec, hsz, hb⟩ := hrel
    have HD := mkHid hdec
    have HB := mkHid hb
    have HSZ := mkHid hsz
    have hB : B.size ≤ 999 := by omega
    clear hdec hb
    by_cases h10 : m < 10
    · have h9 : ¬ ((9 : Int) < (m : Int)) := by omega
      have hcv := conv1 (48 + m) (by omega)
      obtain ⟨z, hz⟩ : ∃ z, z = 48 + m := ⟨_, rfl⟩
      rw [← hz] at hcv
      have hw2 : IntKind.u8.wrap (48 + (m : Int)) = (z : Int) := by rw [IntWalk.u8_in _ (by omega)]; omega
      have HV : Hid ((⟨#[byt z]⟩ : ByteArray) ++ B = ⟨(decT n).toArray⟩) := by
        rw [Hid, HBd.out, HD.out, decT_one h10, ByteArray.mk_append_mk, hz]
      clear hz hsz
      go_wp2_with fail
      go_ret
      exact ⟨ret_str HV.out, HB.out.trans ((box_below _ _).mono HB.out.size)⟩
    · have h9 : (9 : Int) < (m : Int) := by omega
      have hcv := conv1 (48 + m % 10) (by omega)
      obtain ⟨z, hz⟩ : ∃ z, z = 48 + m % 10 := ⟨_, rfl⟩
      obtain ⟨q, hq⟩ : ∃ q, q = m / 10 := ⟨_, rfl⟩
      rw [← hz] at hcv
      have hw2 : IntKind.u8.wrap (48 + (m : Int) % 10) = (z : Int) := by rw [IntWalk.u8_in _ (by omega)]; omega
      have hmq : (m : Int) / 10 = (q : Int) := by omega
      have HV : Hid ((⟨#[byt z]⟩ : ByteArray) ++ B = ⟨(byt z :: ds).toArray⟩) := by
        rw [Hid, HBd.out, ByteArray.mk_append_mk]
        simp
      have HD2 : Hid (decT n = decT q ++ (byt z :: ds)) := by rw [Hid, HD.out, decT_more h10, hq, hz]; simp
      have hs2 : 1 + B.size + q ≤ n := by omega
      have hqm : q < m := by omega
      clear hz hsz hq
      go_wp2_with fail
      refine ⟨⟨q, _, byt z :: ds, rfl, rfl, HV.out, HD2.out, ?_, HB.out.trans ((box_below _ _).mono HB.out.size)⟩, by simp [intOf]; omega⟩
      rw [ByteArray.size_append]
      have e : (⟨#[byt z]⟩ : ByteArray).size = 1 := rfl
      rw [e]
      omega
theorem decT_len (n : Nat) (h : n ≤ 999) : (decT n).length ≤ 3 := by
  by_cases h1 : n < 10
  · rw [decT_one h1]; simp
  rw [decT_more h1]
  by_cases h2 : n / 10 < 10
  · rw [decT_one h2]; simp
  rw [decT_more h2, decT_one (by omega)]
  simp

/-- the sign of a sum, a difference or an application -/
def signT (op : Int) : List UInt8 := if op = 8 then [43] else if op = 9 then [45] else [32]
/-- the text of an expression -/
def textT : Tr → List UInt8
  | .node o n [] => if o = 1 then [byt (97 + n.toNat)] else if o = 2 then decT n.toNat else [byt (65 + n.toNat)]
  | .node o n [a] => (if o = 6 then [126] else [94]) ++ textT a
  | .node o n [a, b] => if o = 5 then [60] ++ textT a ++ [44] ++ textT b ++ [62] else [40] ++ textT a ++ signT o ++ textT b ++ [41]
  | .node o n [a, b, c] => [91] ++ textT a ++ [63] ++ textT b ++ [58] ++ textT c ++ [93]
  | _ => []
termination_by t => SizeOf.sizeOf t
decreasing_by all_goals (simp_wf; omega)
theorem textT_leaf {t : Tr} (hk : t.kids = []) : textT t = if t.op = 1 then [byt (97 + t.num.toNat)] else if t.op = 2 then decT t.num.toNat else [byt (65 + t.num.toNat)] := by
  cases t with
  | node o n ks => simp only [Tr.kids_node] at hk; subst hk; rw [textT]; rfl
theorem textT_one {t a : Tr} (hk : t.kids = [a]) : textT t = (if t.op = 6 then [126] else [94]) ++ textT a := by
  cases t with
  | node o n ks => simp only [Tr.kids_node] at hk; subst hk; rw [textT]; rfl
theorem textT_two {t a b : Tr} (hk : t.kids = [a, b]) : textT t = if t.op = 5 then [60] ++ textT a ++ [44] ++ textT b ++ [62] else [40] ++ textT a ++ signT t.op ++ textT b ++ [41] := by
  cases t with
  | node o n ks => simp only [Tr.kids_node] at hk; subst hk; rw [textT]; rfl
theorem textT_three {t a b c : Tr} (hk : t.kids = [a, b, c]) : textT t = [91] ++ textT a ++ [63] ++ textT b ++ [58] ++ textT c ++ [93] := by
  cases t with
  | node o n ks => simp only [Tr.kids_node] at hk; subst hk; rw [textT]
/-- .. as a string -/
def textB (t : Tr) : ByteArray := ⟨(textT t).toArray⟩
theorem textB_size (t : Tr) : (textB t).size = (textT t).length := rfl

/-- what l1Text does at a tree -/
def TxSaid (t : Tr) : Prop := ∀ (c : Value) (w : World), In w t.kids c → I64 t.op ∧ I64 t.num →
  Calls Try.prog 103 #[.agg #[.int .i64 t.op, .int .i64 t.num, c]] w fun e w' => e = .returned (.string (textB t)) ∧ Below w.heap.size w w'
/-- a valid number -/
theorem ShE.num1 {t : Tr} (h : ShE t) (ho : t.op = 1) : 0 ≤ t.num ∧ t.num < 4 := by
  obtain ⟨d, h⟩ := h
  cases d with
  | zero => simp [shB] at h
  | succ d =>
    unfold shB at h
    simp only [Bool.and_eq_true] at h
    have h2 := h.1.2
    unfold ownB at h2
    rw [if_pos ho] at h2
    simpa using h2
theorem ShE.num2 {t : Tr} (h : ShE t) (ho : t.op = 2) : 0 ≤ t.num ∧ t.num ≤ 999 := by
  obtain ⟨d, h⟩ := h
  cases d with
  | zero => simp [shB] at h
  | succ d =>
    unfold shB at h
    simp only [Bool.and_eq_true] at h
    have h2 := h.1.2
    unfold ownB at h2
    rw [if_neg (by omega), if_pos ho] at h2
    simpa using h2
theorem signT_len (o : Int) : (signT o).length = 1 := by unfold signT; split; rfl; split <;> rfl
theorem textT_len : ∀ (n : Nat) (t : Tr), szT t ≤ n → ShE t → (textT t).length ≤ 4 * (1 + szT t) := by
  intro n
  induction n using Nat.strongRecOn with
  | ind n ih =>
    intro t hz hs
    have hz' : szT t = szL t.kids := szT_eq t
    have kid : ∀ k, k ∈ t.kids → (textT k).length ≤ 4 * (1 + szT k) := by
      intro k hk
      obtain ⟨i, hi, rfl⟩ := List.getElem_of_mem hk
      have := szT_lt_szL t.kids i hi
      exact ih _ (by omega) _ (Nat.le_refl _) (hs.kid hk)
    rcases hs.cases with ⟨ho, hk0⟩ | ⟨ho, a, hk1⟩ | ⟨ho, a, b, hk2⟩ | ⟨ho, a, b, d, hk3⟩
    · rw [textT_leaf hk0]
      split
      · simp; omega
      split
      · rename_i h2
        have := hs.num2 h2
        have := decT_len t.num.toNat (by omega)
        omega
      · simp; omega
    · have h1 := kid a (by rw [hk1]; simp)
      rw [textT_one hk1, hz', hk1]
      simp only [szL, List.length_append]
      split <;> simp <;> omega
    · have h1 := kid a (by rw [hk2]; simp)
      have h2 := kid b (by rw [hk2]; simp)
      have h3 := signT_len t.op
      rw [textT_two hk2, hz', hk2]
      split <;> simp only [szL, List.length_append, List.length_cons, List.length_nil] <;> omega
    · have h1 := kid a (by rw [hk3]; simp)
      have h2 := kid b (by rw [hk3]; simp)
      have h3 := kid d (by rw [hk3]; simp)
      rw [textT_three hk3, hz', hk3]
      simp only [szL, List.length_append, List.length_cons, List.length_nil]
      omega

set_option maxRecDepth 100000 in
set_option maxHeartbeats 1600000 in
theorem tx_pair (num : Int) (bl off cap : Nat) (o1 n1 : Int) (z1 cap1 : Nat) (ad1 : Option Addr) (o2 n2 : Int) (z2 cap2 : Nat) (ad2 : Option Addr) (A B : ByteArray) (w : World)
    (c10 : w.cell? ⟨bl, off, none⟩ = some (.int .i64 o1)) (c11 : w.cell? ⟨bl, off + 1, none⟩ = some (.int .i64 n1)) (c12 : w.cell? ⟨bl, off + 2, none⟩ = some (.slice ad1 z1 cap1))
    (c20 : w.cell? ⟨bl, off + 3, none⟩ = some (.int .i64 o2)) (c21 : w.cell? ⟨bl, off + 3 + 1, none⟩ = some (.int .i64 n2)) (c22 : w.cell? ⟨bl, off + 3 + 2, none⟩ = some (.slice ad2 z2 cap2))
    (hs1 : A.size ≤ 4398046511108) (hs2 : B.size ≤ 4398046511108)
    (h1 : ∀ W, Below w.heap.size w W → Calls Try.prog 103 #[.agg #[.int .i64 o1, .int .i64 n1, .slice ad1 z1 cap1]] W fun e w' => e = .returned (.string A) ∧ Below W.heap.size W w')
    (h2 : ∀ W, Below w.heap.size w W → Calls Try.prog 103 #[.agg #[.int .i64 o2, .int .i64 n2, .slice ad2 z2 cap2]] W fun e w' => e = .returned (.string B) ∧ Below W.heap.size W w') :
    Calls Try.prog 103 #[.agg #[.int .i64 5, .int .i64 num, .slice (some ⟨bl, off, none⟩) 2 cap]] w fun e w' => e = .returned (.string ((⟨#[60]⟩ : ByteArray) ++ A ++ (⟨#[44]⟩ : ByteArray) ++ B ++ (⟨#[62]⟩ : ByteArray))) ∧ Below w.heap.size w w' := by
  obtain ⟨wa, hwa⟩ : ∃ wa, wa = w.alloc (.cells #[.int .i64 5, .int .i64 num, .slice (some ⟨bl, off, none⟩) 2 cap] 30) := ⟨_, rfl⟩
  have HBA : Hid (Below w.heap.size w wa) := by rw [hwa]; exact box_below _ _
  have HWA := mkHid hwa
  have hba : wa.heap[w.heap.size]? = some (.cells #[.int .i64 5, .int .i64 num, .slice (some ⟨bl, off, none⟩) 2 cap] 30) := by rw [hwa]; exact Deep.blk_alloc_new _ _
  obtain ⟨wb, hwb⟩ : ∃ wb, wb = wa := ⟨_, rfl⟩
  have HWB := mkHid hwb
  have HBX : Hid (Below w.heap.size w wb) := by rw [hwb]; exact HBA.out
  have hbx := (show wb.heap[w.heap.size]? = wa.heap[w.heap.size]? by rw [hwb]).trans hba
  have H1 : Hid (∀ W, Below wb.heap.size wb W → Calls Try.prog 103 #[.agg #[.int .i64 o1, .int .i64 n1, .slice ad1 z1 cap1]] W fun e w' => e = .returned (.string A) ∧ Below W.heap.size W w') := fun W h => h1 W (HBX.out.trans (h.mono HBX.out.size))
  have H2 : Hid (∀ W, Below wb.heap.size wb W → Calls Try.prog 103 #[.agg #[.int .i64 o2, .int .i64 n2, .slice ad2 z2 cap2]] W fun e w' => e = .returned (.string B) ∧ Below W.heap.size W w') := fun W h => h2 W (HBX.out.trans (h.mono HBX.out.size))
  have r10 := cell_regrown ((HBX.out.cell (cell_lt c10)).trans c10)
  have r11 := cell_regrown ((HBX.out.cell (cell_lt c11)).trans c11)
  have r12 := cell_regrown ((HBX.out.cell (cell_lt c12)).trans c12)
  have r20 := cell_regrown ((HBX.out.cell (cell_lt c20)).trans c20)
  have r21 := cell_regrown ((HBX.out.cell (cell_lt c21)).trans c21)
  have r22 := cell_regrown ((HBX.out.cell (cell_lt c22)).trans c22)
  have rk := cell_regrown (cell_of_blk hbx 2 _ rfl)
  clear c10 c11 c12 c20 c21 c22 h1 h2 hwb hbx hwa hba
  go_enter Try.func103, Try.ntmps103
  go_wp2_with fail
  rw [← HWA.out, ← HWB.out]
  refine wp_region_quiet_below (by kernel_rfl) (by kernel_rfl) ?_
  iterate 4 (any_goals (first | go_big_quiet_step (fail) | quiet_step (fail)))
  any_goals (first | go_big_quiet_step (exact quietB (fun W h => H1.out W h) _ _) | quiet_step (exact quietB (fun W h => H1.out W h) _ _))
  iterate 6 (any_goals (first | go_big_quiet_step (fail) | quiet_step (fail)))
  any_goals (first | go_big_quiet_step (exact quietB (fun W h => H2.out W h) _ _) | quiet_step (exact quietB (fun W h => H2.out W h) _ _))
  iterate 3 (any_goals (first | go_big_quiet_step (fail) | quiet_step (fail)))
  refine wpQuiet_nil ?_
  intro _ hw'
  obtain ⟨⟨dq, osq⟩, hw''⟩ := hw'
  subst hw''
  clear r10 r11 r12 r20 r21 r22 rk
  go_wp2_with fail
  go_ret
  exact ⟨rfl, HBX.out.trans ((below_regrown _ _ _).mono HBX.out.size)⟩

set_option maxRecDepth 100000 in
set_option maxHeartbeats 1600000 in
theorem tx_bin4 (num : Int) (bl off cap : Nat) (o1 n1 : Int) (z1 cap1 : Nat) (ad1 : Option Addr) (o2 n2 : Int) (z2 cap2 : Nat) (ad2 : Option Addr) (A B : ByteArray) (w : World)
    (c10 : w.cell? ⟨bl, off, none⟩ = some (.int .i64 o1)) (c11 : w.cell? ⟨bl, off + 1, none⟩ = some (.int .i64 n1)) (c12 : w.cell? ⟨bl, off + 2, none⟩ = some (.slice ad1 z1 cap1))
    (c20 : w.cell? ⟨bl, off + 3, none⟩ = some (.int .i64 o2)) (c21 : w.cell? ⟨bl, off + 3 + 1, none⟩ = some (.int .i64 n2)) (c22 : w.cell? ⟨bl, off + 3 + 2, none⟩ = some (.slice ad2 z2 cap2))
    (hs1 : A.size ≤ 4398046511108) (hs2 : B.size ≤ 4398046511108)
    (h1 : ∀ W, Below w.heap.size w W → Calls Try.prog 103 #[.agg #[.int .i64 o1, .int .i64 n1, .slice ad1 z1 cap1]] W fun e w' => e = .returned (.string A) ∧ Below W.heap.size W w')
    (h2 : ∀ W, Below w.heap.size w W → Calls Try.prog 103 #[.agg #[.int .i64 o2, .int .i64 n2, .slice ad2 z2 cap2]] W fun e w' => e = .returned (.string B) ∧ Below W.heap.size W w') :
    Calls Try.prog 103 #[.agg #[.int .i64 4, .int .i64 num, .slice (some ⟨bl, off, none⟩) 2 cap]] w fun e w' => e = .returned (.string ((⟨#[40]⟩ : ByteArray) ++ A ++ (⟨#[32]⟩ : ByteArray) ++ B ++ (⟨#[41]⟩ : ByteArray))) ∧ Below w.heap.size w w' := by
  obtain ⟨wa, hwa⟩ : ∃ wa, wa = w.alloc (.cells #[.int .i64 4, .int .i64 num, .slice (some ⟨bl, off, none⟩) 2 cap] 30) := ⟨_, rfl⟩
  have HBA : Hid (Below w.heap.size w wa) := by rw [hwa]; exact box_below _ _
  have HWA := mkHid hwa
  have hba : wa.heap[w.heap.size]? = some (.cells #[.int .i64 4, .int .i64 num, .slice (some ⟨bl, off, none⟩) 2 cap] 30) := by rw [hwa]; exact Deep.blk_alloc_new _ _
  obtain ⟨wb, hwb⟩ : ∃ wb, wb = wa.alloc (.cells #[.string ⟨#[32]⟩, .string ⟨#[43]⟩, .string ⟨#[45]⟩] 9) := ⟨_, rfl⟩
  have HWB := mkHid hwb
  have hsz : wa.heap.size = w.heap.size + 1 := by rw [hwa, Deep.nblk_alloc]
  have HBX : Hid (Below w.heap.size w wb) := by rw [hwb]; exact HBA.out.alloc HBA.out.size _
  have hbx := (show wb.heap[w.heap.size]? = wa.heap[w.heap.size]? by rw [hwb]; exact Deep.blk_alloc_lt _ _ _ (by omega)).trans hba
  have hbs : wb.heap[w.heap.size + 1]? = some (.cells #[.string ⟨#[32]⟩, .string ⟨#[43]⟩, .string ⟨#[45]⟩] 9) := by rw [hwb, ← hsz]; exact Deep.blk_alloc_new _ _
  have H1 : Hid (∀ W, Below wb.heap.size wb W → Calls Try.prog 103 #[.agg #[.int .i64 o1, .int .i64 n1, .slice ad1 z1 cap1]] W fun e w' => e = .returned (.string A) ∧ Below W.heap.size W w') := fun W h => h1 W (HBX.out.trans (h.mono HBX.out.size))
  have H2 : Hid (∀ W, Below wb.heap.size wb W → Calls Try.prog 103 #[.agg #[.int .i64 o2, .int .i64 n2, .slice ad2 z2 cap2]] W fun e w' => e = .returned (.string B) ∧ Below W.heap.size W w') := fun W h => h2 W (HBX.out.trans (h.mono HBX.out.size))
  have r10 := cell_regrown ((HBX.out.cell (cell_lt c10)).trans c10)
  have r11 := cell_regrown ((HBX.out.cell (cell_lt c11)).trans c11)
  have r12 := cell_regrown ((HBX.out.cell (cell_lt c12)).trans c12)
  have r20 := cell_regrown ((HBX.out.cell (cell_lt c20)).trans c20)
  have r21 := cell_regrown ((HBX.out.cell (cell_lt c21)).trans c21)
  have r22 := cell_regrown ((HBX.out.cell (cell_lt c22)).trans c22)
  have rk := cell_regrown (cell_of_blk hbx 2 _ rfl)
  have x0 := cell_of_blk hba 0 _ rfl
  have y0 := cell_of_blk hbx 0 _ rfl
  have rs := cell_regrown (cell_of_blk hbs 0 _ rfl)
  clear c10 c11 c12 c20 c21 c22 h1 h2 hwb hbx hwa hba hbs hsz
  go_enter Try.func103, Try.ntmps103
  go_wp2_with fail
  rw [← HWA.out, ← HWB.out]
  refine wp_region_quiet_below (by kernel_rfl) (by kernel_rfl) ?_
  iterate 4 (any_goals (first | go_big_quiet_step (fail) | quiet_step (fail)))
  any_goals (first | go_big_quiet_step (exact quietB (fun W h => H1.out W h) _ _) | quiet_step (exact quietB (fun W h => H1.out W h) _ _))
  iterate 10 (any_goals (first | go_big_quiet_step (fail) | quiet_step (fail)))
  any_goals (first | go_big_quiet_step (exact quietB (fun W h => H2.out W h) _ _) | quiet_step (exact quietB (fun W h => H2.out W h) _ _))
  iterate 3 (any_goals (first | go_big_quiet_step (fail) | quiet_step (fail)))
  refine wpQuiet_nil ?_
  intro _ hw'
  obtain ⟨⟨dq, osq⟩, hw''⟩ := hw'
  subst hw''
  clear r10 r11 r12 r20 r21 r22 rk rs
  go_wp2_with fail
  go_ret
  exact ⟨rfl, HBX.out.trans ((below_regrown _ _ _).mono HBX.out.size)⟩

set_option maxRecDepth 100000 in
set_option maxHeartbeats 1600000 in
theorem tx_bin8 (num : Int) (bl off cap : Nat) (o1 n1 : Int) (z1 cap1 : Nat) (ad1 : Option Addr) (o2 n2 : Int) (z2 cap2 : Nat) (ad2 : Option Addr) (A B : ByteArray) (w : World)
    (c10 : w.cell? ⟨bl, off, none⟩ = some (.int .i64 o1)) (c11 : w.cell? ⟨bl, off + 1, none⟩ = some (.int .i64 n1)) (c12 : w.cell? ⟨bl, off + 2, none⟩ = some (.slice ad1 z1 cap1))
    (c20 : w.cell? ⟨bl, off + 3, none⟩ = some (.int .i64 o2)) (c21 : w.cell? ⟨bl, off + 3 + 1, none⟩ = some (.int .i64 n2)) (c22 : w.cell? ⟨bl, off + 3 + 2, none⟩ = some (.slice ad2 z2 cap2))
    (hs1 : A.size ≤ 4398046511108) (hs2 : B.size ≤ 4398046511108)
    (h1 : ∀ W, Below w.heap.size w W → Calls Try.prog 103 #[.agg #[.int .i64 o1, .int .i64 n1, .slice ad1 z1 cap1]] W fun e w' => e = .returned (.string A) ∧ Below W.heap.size W w')
    (h2 : ∀ W, Below w.heap.size w W → Calls Try.prog 103 #[.agg #[.int .i64 o2, .int .i64 n2, .slice ad2 z2 cap2]] W fun e w' => e = .returned (.string B) ∧ Below W.heap.size W w') :
    Calls Try.prog 103 #[.agg #[.int .i64 8, .int .i64 num, .slice (some ⟨bl, off, none⟩) 2 cap]] w fun e w' => e = .returned (.string ((⟨#[40]⟩ : ByteArray) ++ A ++ (⟨#[43]⟩ : ByteArray) ++ B ++ (⟨#[41]⟩ : ByteArray))) ∧ Below w.heap.size w w' := by
  obtain ⟨wa, hwa⟩ : ∃ wa, wa = w.alloc (.cells #[.int .i64 8, .int .i64 num, .slice (some ⟨bl, off, none⟩) 2 cap] 30) := ⟨_, rfl⟩
  have HBA : Hid (Below w.heap.size w wa) := by rw [hwa]; exact box_below _ _
  have HWA := mkHid hwa
  have hba : wa.heap[w.heap.size]? = some (.cells #[.int .i64 8, .int .i64 num, .slice (some ⟨bl, off, none⟩) 2 cap] 30) := by rw [hwa]; exact Deep.blk_alloc_new _ _
  obtain ⟨wb, hwb⟩ : ∃ wb, wb = wa.alloc (.cells #[.string ⟨#[32]⟩, .string ⟨#[43]⟩, .string ⟨#[45]⟩] 9) := ⟨_, rfl⟩
  have HWB := mkHid hwb
  have hsz : wa.heap.size = w.heap.size + 1 := by rw [hwa, Deep.nblk_alloc]
  have HBX : Hid (Below w.heap.size w wb) := by rw [hwb]; exact HBA.out.alloc HBA.out.size _
  have hbx := (show wb.heap[w.heap.size]? = wa.heap[w.heap.size]? by rw [hwb]; exact Deep.blk_alloc_lt _ _ _ (by omega)).trans hba
  have hbs : wb.heap[w.heap.size + 1]? = some (.cells #[.string ⟨#[32]⟩, .string ⟨#[43]⟩, .string ⟨#[45]⟩] 9) := by rw [hwb, ← hsz]; exact Deep.blk_alloc_new _ _
  have H1 : Hid (∀ W, Below wb.heap.size wb W → Calls Try.prog 103 #[.agg #[.int .i64 o1, .int .i64 n1, .slice ad1 z1 cap1]] W fun e w' => e = .returned (.string A) ∧ Below W.heap.size W w') := fun W h => h1 W (HBX.out.trans (h.mono HBX.out.size))
  have H2 : Hid (∀ W, Below wb.heap.size wb W → Calls Try.prog 103 #[.agg #[.int .i64 o2, .int .i64 n2, .slice ad2 z2 cap2]] W fun e w' => e = .returned (.string B) ∧ Below W.heap.size W w') := fun W h => h2 W (HBX.out.trans (h.mono HBX.out.size))
  have r10 := cell_regrown ((HBX.out.cell (cell_lt c10)).trans c10)
  have r11 := cell_regrown ((HBX.out.cell (cell_lt c11)).trans c11)
  have r12 := cell_regrown ((HBX.out.cell (cell_lt c12)).trans c12)
  have r20 := cell_regrown ((HBX.out.cell (cell_lt c20)).trans c20)
  have r21 := cell_regrown ((HBX.out.cell (cell_lt c21)).trans c21)
  have r22 := cell_regrown ((HBX.out.cell (cell_lt c22)).trans c22)
  have rk := cell_regrown (cell_of_blk hbx 2 _ rfl)
  have x0 := cell_of_blk hba 0 _ rfl
  have y0 := cell_of_blk hbx 0 _ rfl
  have rs := cell_regrown (cell_of_blk hbs 1 _ rfl)
  clear c10 c11 c12 c20 c21 c22 h1 h2 hwb hbx hwa hba hbs hsz
  go_enter Try.func103, Try.ntmps103
  go_wp2_with fail
  rw [← HWA.out, ← HWB.out]
  refine wp_region_quiet_below (by kernel_rfl) (by kernel_rfl) ?_
  iterate 4 (any_goals (first | go_big_quiet_step (fail) | quiet_step (fail)))
  any_goals (first | go_big_quiet_step (exact quietB (fun W h => H1.out W h) _ _) | quiet_step (exact quietB (fun W h => H1.out W h) _ _))
  iterate 10 (any_goals (first | go_big_quiet_step (fail) | quiet_step (fail)))
  any_goals (first | go_big_quiet_step (exact quietB (fun W h => H2.out W h) _ _) | quiet_step (exact quietB (fun W h => H2.out W h) _ _))
  iterate 3 (any_goals (first | go_big_quiet_step (fail) | quiet_step (fail)))
  refine wpQuiet_nil ?_
  intro _ hw'
  obtain ⟨⟨dq, osq⟩, hw''⟩ := hw'
  subst hw''
  clear r10 r11 r12 r20 r21 r22 rk rs
  go_wp2_with fail
  go_ret
  exact ⟨rfl, HBX.out.trans ((below_regrown _ _ _).mono HBX.out.size)⟩

set_option maxRecDepth 100000 in
set_option maxHeartbeats 1600000 in
theorem tx_bin9 (num : Int) (bl off cap : Nat) (o1 n1 : Int) (z1 cap1 : Nat) (ad1 : Option Addr) (o2 n2 : Int) (z2 cap2 : Nat) (ad2 : Option Addr) (A B : ByteArray) (w : World)
    (c10 : w.cell? ⟨bl, off, none⟩ = some (.int .i64 o1)) (c11 : w.cell? ⟨bl, off + 1, none⟩ = some (.int .i64 n1)) (c12 : w.cell? ⟨bl, off + 2, none⟩ = some (.slice ad1 z1 cap1))
    (c20 : w.cell? ⟨bl, off + 3, none⟩ = some (.int .i64 o2)) (c21 : w.cell? ⟨bl, off + 3 + 1, none⟩ = some (.int .i64 n2)) (c22 : w.cell? ⟨bl, off + 3 + 2, none⟩ = some (.slice ad2 z2 cap2))
    (hs1 : A.size ≤ 4398046511108) (hs2 : B.size ≤ 4398046511108)
    (h1 : ∀ W, Below w.heap.size w W → Calls Try.prog 103 #[.agg #[.int .i64 o1, .int .i64 n1, .slice ad1 z1 cap1]] W fun e w' => e = .returned (.string A) ∧ Below W.heap.size W w')
    (h2 : ∀ W, Below w.heap.size w W → Calls Try.prog 103 #[.agg #[.int .i64 o2, .int .i64 n2, .slice ad2 z2 cap2]] W fun e w' => e = .returned (.string B) ∧ Below W.heap.size W w') :
    Calls Try.prog 103 #[.agg #[.int .i64 9, .int .i64 num, .slice (some ⟨bl, off, none⟩) 2 cap]] w fun e w' => e = .returned (.string ((⟨#[40]⟩ : ByteArray) ++ A ++ (⟨#[45]⟩ : ByteArray) ++ B ++ (⟨#[41]⟩ : ByteArray))) ∧ Below w.heap.size w w' := by
  obtain ⟨wa, hwa⟩ : ∃ wa, wa = w.alloc (.cells #[.int .i64 9, .int .i64 num, .slice (some ⟨bl, off, none⟩) 2 cap] 30) := ⟨_, rfl⟩
  have HBA : Hid (Below w.heap.size w wa) := by rw [hwa]; exact box_below _ _
  have HWA := mkHid hwa
  have hba : wa.heap[w.heap.size]? = some (.cells #[.int .i64 9, .int .i64 num, .slice (some ⟨bl, off, none⟩) 2 cap] 30) := by rw [hwa]; exact Deep.blk_alloc_new _ _
  obtain ⟨wb, hwb⟩ : ∃ wb, wb = wa.alloc (.cells #[.string ⟨#[32]⟩, .string ⟨#[43]⟩, .string ⟨#[45]⟩] 9) := ⟨_, rfl⟩
  have HWB := mkHid hwb
  have hsz : wa.heap.size = w.heap.size + 1 := by rw [hwa, Deep.nblk_alloc]
  have HBX : Hid (Below w.heap.size w wb) := by rw [hwb]; exact HBA.out.alloc HBA.out.size _
  have hbx := (show wb.heap[w.heap.size]? = wa.heap[w.heap.size]? by rw [hwb]; exact Deep.blk_alloc_lt _ _ _ (by omega)).trans hba
  have hbs : wb.heap[w.heap.size + 1]? = some (.cells #[.string ⟨#[32]⟩, .string ⟨#[43]⟩, .string ⟨#[45]⟩] 9) := by rw [hwb, ← hsz]; exact Deep.blk_alloc_new _ _
  have H1 : Hid (∀ W, Below wb.heap.size wb W → Calls Try.prog 103 #[.agg #[.int .i64 o1, .int .i64 n1, .slice ad1 z1 cap1]] W fun e w' => e = .returned (.string A) ∧ Below W.heap.size W w') := fun W h => h1 W (HBX.out.trans (h.mono HBX.out.size))
  have H2 : Hid (∀ W, Below wb.heap.size wb W → Calls Try.prog 103 #[.agg #[.int .i64 o2, .int .i64 n2, .slice ad2 z2 cap2]] W fun e w' => e = .returned (.string B) ∧ Below W.heap.size W w') := fun W h => h2 W (HBX.out.trans (h.mono HBX.out.size))
  have r10 := cell_regrown ((HBX.out.cell (cell_lt c10)).trans c10)
  have r11 := cell_regrown ((HBX.out.cell (cell_lt c11)).trans c11)
  have r12 := cell_regrown ((HBX.out.cell (cell_lt c12)).trans c12)
  have r20 := cell_regrown ((HBX.out.cell (cell_lt c20)).trans c20)
  have r21 := cell_regrown ((HBX.out.cell (cell_lt c21)).trans c21)
  have r22 := cell_regrown ((HBX.out.cell (cell_lt c22)).trans c22)
  have rk := cell_regrown (cell_of_blk hbx 2 _ rfl)
  have x0 := cell_of_blk hba 0 _ rfl
  have y0 := cell_of_blk hbx 0 _ rfl
  have rs := cell_regrown (cell_of_blk hbs 2 _ rfl)
  clear c10 c11 c12 c20 c21 c22 h1 h2 hwb hbx hwa hba hbs hsz
  go_enter Try.func103, Try.ntmps103
  go_wp2_with fail
  rw [← HWA.out, ← HWB.out]
  refine wp_region_quiet_below (by kernel_rfl) (by kernel_rfl) ?_
  iterate 4 (any_goals (first | go_big_quiet_step (fail) | quiet_step (fail)))
  any_goals (first | go_big_quiet_step (exact quietB (fun W h => H1.out W h) _ _) | quiet_step (exact quietB (fun W h => H1.out W h) _ _))
  iterate 10 (any_goals (first | go_big_quiet_step (fail) | quiet_step (fail)))
  any_goals (first | go_big_quiet_step (exact quietB (fun W h => H2.out W h) _ _) | quiet_step (exact quietB (fun W h => H2.out W h) _ _))
  iterate 3 (any_goals (first | go_big_quiet_step (fail) | quiet_step (fail)))
  refine wpQuiet_nil ?_
  intro _ hw'
  obtain ⟨⟨dq, osq⟩, hw''⟩ := hw'
  subst hw''
  clear r10 r11 r12 r20 r21 r22 rk rs
  go_wp2_with fail
  go_ret
  exact ⟨rfl, HBX.out.trans ((below_regrown _ _ _).mono HBX.out.size)⟩

set_option maxRecDepth 100000 in
set_option maxHeartbeats 1600000 in
theorem tx_if (num : Int) (bl off cap : Nat) (o1 n1 : Int) (z1 cap1 : Nat) (ad1 : Option Addr) (o2 n2 : Int) (z2 cap2 : Nat) (ad2 : Option Addr) (o3 n3 : Int) (z3 cap3 : Nat) (ad3 : Option Addr) (A B C : ByteArray) (w : World)
    (c10 : w.cell? ⟨bl, off, none⟩ = some (.int .i64 o1)) (c11 : w.cell? ⟨bl, off + 1, none⟩ = some (.int .i64 n1)) (c12 : w.cell? ⟨bl, off + 2, none⟩ = some (.slice ad1 z1 cap1))
    (c20 : w.cell? ⟨bl, off + 3, none⟩ = some (.int .i64 o2)) (c21 : w.cell? ⟨bl, off + 3 + 1, none⟩ = some (.int .i64 n2)) (c22 : w.cell? ⟨bl, off + 3 + 2, none⟩ = some (.slice ad2 z2 cap2))
    (c30 : w.cell? ⟨bl, off + 6, none⟩ = some (.int .i64 o3)) (c31 : w.cell? ⟨bl, off + 6 + 1, none⟩ = some (.int .i64 n3)) (c32 : w.cell? ⟨bl, off + 6 + 2, none⟩ = some (.slice ad3 z3 cap3))
    (hs1 : A.size ≤ 4398046511108) (hs2 : B.size ≤ 4398046511108) (hs3 : C.size ≤ 4398046511108)
    (h1 : ∀ W, Below w.heap.size w W → Calls Try.prog 103 #[.agg #[.int .i64 o1, .int .i64 n1, .slice ad1 z1 cap1]] W fun e w' => e = .returned (.string A) ∧ Below W.heap.size W w')
    (h2 : ∀ W, Below w.heap.size w W → Calls Try.prog 103 #[.agg #[.int .i64 o2, .int .i64 n2, .slice ad2 z2 cap2]] W fun e w' => e = .returned (.string B) ∧ Below W.heap.size W w')
    (h3 : ∀ W, Below w.heap.size w W → Calls Try.prog 103 #[.agg #[.int .i64 o3, .int .i64 n3, .slice ad3 z3 cap3]] W fun e w' => e = .returned (.string C) ∧ Below W.heap.size W w') :
    Calls Try.prog 103 #[.agg #[.int .i64 10, .int .i64 num, .slice (some ⟨bl, off, none⟩) 3 cap]] w fun e w' => e = .returned (.string ((⟨#[91]⟩ : ByteArray) ++ A ++ (⟨#[63]⟩ : ByteArray) ++ B ++ (⟨#[58]⟩ : ByteArray) ++ C ++ (⟨#[93]⟩ : ByteArray))) ∧ Below w.heap.size w w' := by
  obtain ⟨wa, hwa⟩ : ∃ wa, wa = w.alloc (.cells #[.int .i64 10, .int .i64 num, .slice (some ⟨bl, off, none⟩) 3 cap] 30) := ⟨_, rfl⟩
  have HBA : Hid (Below w.heap.size w wa) := by rw [hwa]; exact box_below _ _
  have HWA := mkHid hwa
  have hba : wa.heap[w.heap.size]? = some (.cells #[.int .i64 10, .int .i64 num, .slice (some ⟨bl, off, none⟩) 3 cap] 30) := by rw [hwa]; exact Deep.blk_alloc_new _ _
  obtain ⟨wb, hwb⟩ : ∃ wb, wb = wa := ⟨_, rfl⟩
  have HWB := mkHid hwb
  have HBX : Hid (Below w.heap.size w wb) := by rw [hwb]; exact HBA.out
  have hbx := (show wb.heap[w.heap.size]? = wa.heap[w.heap.size]? by rw [hwb]).trans hba
  have H1 : Hid (∀ W, Below wb.heap.size wb W → Calls Try.prog 103 #[.agg #[.int .i64 o1, .int .i64 n1, .slice ad1 z1 cap1]] W fun e w' => e = .returned (.string A) ∧ Below W.heap.size W w') := fun W h => h1 W (HBX.out.trans (h.mono HBX.out.size))
  have H2 : Hid (∀ W, Below wb.heap.size wb W → Calls Try.prog 103 #[.agg #[.int .i64 o2, .int .i64 n2, .slice ad2 z2 cap2]] W fun e w' => e = .returned (.string B) ∧ Below W.heap.size W w') := fun W h => h2 W (HBX.out.trans (h.mono HBX.out.size))
  have H3 : Hid (∀ W, Below wb.heap.size wb W → Calls Try.prog 103 #[.agg #[.int .i64 o3, .int .i64 n3, .slice ad3 z3 cap3]] W fun e w' => e = .returned (.string C) ∧ Below W.heap.size W w') := fun W h => h3 W (HBX.out.trans (h.mono HBX.out.size))
  have r10 := cell_regrown ((HBX.out.cell (cell_lt c10)).trans c10)
  have r11 := cell_regrown ((HBX.out.cell (cell_lt c11)).trans c11)
  have r12 := cell_regrown ((HBX.out.cell (cell_lt c12)).trans c12)
  have r20 := cell_regrown ((HBX.out.cell (cell_lt c20)).trans c20)
  have r21 := cell_regrown ((HBX.out.cell (cell_lt c21)).trans c21)
  have r22 := cell_regrown ((HBX.out.cell (cell_lt c22)).trans c22)
  have r30 := cell_regrown ((HBX.out.cell (cell_lt c30)).trans c30)
  have r31 := cell_regrown ((HBX.out.cell (cell_lt c31)).trans c31)
  have r32 := cell_regrown ((HBX.out.cell (cell_lt c32)).trans c32)
  have rk := cell_regrown (cell_of_blk hbx 2 _ rfl)
  clear c10 c11 c12 c20 c21 c22 c30 c31 c32 h1 h2 h3 hwb hbx hwa hba
  go_enter Try.func103, Try.ntmps103
  go_wp2_with fail
  rw [← HWA.out, ← HWB.out]
  refine wp_region_quiet_below (by kernel_rfl) (by kernel_rfl) ?_
  iterate 4 (any_goals (first | go_big_quiet_step (fail) | quiet_step (fail)))
  any_goals (first | go_big_quiet_step (exact quietB (fun W h => H1.out W h) _ _) | quiet_step (exact quietB (fun W h => H1.out W h) _ _))
  iterate 6 (any_goals (first | go_big_quiet_step (fail) | quiet_step (fail)))
  any_goals (first | go_big_quiet_step (exact quietB (fun W h => H2.out W h) _ _) | quiet_step (exact quietB (fun W h => H2.out W h) _ _))
  iterate 6 (any_goals (first | go_big_quiet_step (fail) | quiet_step (fail)))
  any_goals (first | go_big_quiet_step (exact quietB (fun W h => H3.out W h) _ _) | quiet_step (exact quietB (fun W h => H3.out W h) _ _))
  iterate 3 (any_goals (first | go_big_quiet_step (fail) | quiet_step (fail)))
  refine wpQuiet_nil ?_
  intro _ hw'
  obtain ⟨⟨dq, osq⟩, hw''⟩ := hw'
  subst hw''
  clear r10 r11 r12 r20 r21 r22 r30 r31 r32 rk
  go_wp2_with fail
  go_ret
  exact ⟨rfl, HBX.out.trans ((below_regrown _ _ _).mono HBX.out.size)⟩

set_option maxRecDepth 100000 in
set_option maxHeartbeats 1600000 in
theorem l1Text_step (t : Tr) (hsh : ShE t) (hz : szT t ≤ 1099511627776) (ih : ∀ x, szT x < szT t → ShE x → TxSaid x) : TxSaid t := by
  intro c w hk ht
  have HK := mkHid hk
  have HS := mkHid hsh
  have HI := mkHid ih
  obtain ⟨ad, cap, rfl, -, -, -⟩ := hk
  have HBX : Hid (Below w.heap.size w (w.alloc (.cells #[.int .i64 t.op, .int .i64 t.num, .slice ad t.kids.length cap] 30))) := box_below _ _
  have kid : ∀ (i : Nat) (hi : i < t.kids.length), ∃ bl off adk capk, ad = some ⟨bl, off, none⟩ ∧ w.cell? ⟨bl, off + i * 3, none⟩ = some (.int .i64 t.kids[i].op) ∧ w.cell? ⟨bl, off + i * 3 + 1, none⟩ = some (.int .i64 t.kids[i].num) ∧ w.cell? ⟨bl, off + i * 3 + 2, none⟩ = some (.slice adk t.kids[i].kids.length capk) ∧ (textB t.kids[i]).size ≤ 4398046511108 ∧
      ∀ W, Below w.heap.size w W → Calls Try.prog 103 #[.agg #[.int .i64 t.kids[i].op, .int .i64 t.kids[i].num, .slice adk t.kids[i].kids.length capk]] W fun e w' => e = .returned (.string (textB t.kids[i])) ∧ Below W.heap.size W w' := by
    intro i hi
    obtain ⟨_, _, he, -, -, hr⟩ := HK.out
    cases he
    rcases hr with hnil | ⟨bl, off, rfl, -, hr⟩
    · rw [hnil] at hi; simp at hi
    obtain ⟨a, b, r, e0, e1, e2, htr⟩ := RowOn.at t.kids off i hi hr
    obtain ⟨rfl, rfl, i0, i1, hkk⟩ := trOn_iff.1 htr
    obtain ⟨adk, capk, rfl, -, -, -⟩ := id hkk
    have hsk := HS.out.kid (List.getElem_mem hi)
    have hlt := szT_lt_szL t.kids i hi
    have h4 := textT_len _ _ (Nat.le_refl _) hsk
    rw [← szT_eq] at hlt
    exact ⟨bl, off, adk, capk, rfl, e0, e1, e2, by rw [textB_size]; omega, fun W hW => HI.out _ hlt hsk _ W (hkk.next hW) ⟨i0, i1⟩⟩
  have HKI := mkHid kid
  clear hsh ih kid ht
  rcases HS.out.cases with ⟨ho, hk0⟩ | ⟨ho, a, hk1⟩ | ⟨ho, a, b, hk2⟩ | ⟨ho, a, b, d, hk3⟩
  · rcases ho with ho | ho | ho
    · obtain ⟨hn0, hn1⟩ := HS.out.num1 ho
      obtain ⟨n, hn⟩ : ∃ n : Nat, t.num = (n : Int) := ⟨t.num.toNat, by omega⟩
      have HV : Hid ((⟨#[byt (97 + n)]⟩ : ByteArray) = textB t) := by unfold Hid textB; rw [textT_leaf hk0, if_pos ho, hn]; rfl
      have HL := mkHid fun W => l1Letter_calls 97 n W (by omega) (Nat.le_refl _)
      rw [ho, hn] at HBX ⊢
      clear ho hk0 hn0 hn1 hn
      go_enter Try.func103, Try.ntmps103
      go_wp2_with fail
      refine (HL.out _).mono ?_
      rintro e w1 ⟨rfl, hb1⟩
      have HB1 : Hid (Below w.heap.size w w1) := HBX.out.trans (hb1.mono HBX.out.size)
      clear hb1
      go_wp2_with fail
      go_ret
      exact ⟨ret_str HV.out, HB1.out⟩
    · obtain ⟨hn0, hn1⟩ := HS.out.num2 ho
      obtain ⟨n, hn⟩ : ∃ n : Nat, t.num = (n : Int) := ⟨t.num.toNat, by omega⟩
      have HV : Hid ((⟨(decT n).toArray⟩ : ByteArray) = textB t) := by unfold Hid textB; rw [textT_leaf hk0, if_neg (by omega), if_pos ho, hn]; rfl
      have HL := mkHid fun W => l16Dec_calls n W (by omega)
      rw [ho, hn] at HBX ⊢
      clear ho hk0 hn0 hn1 hn
      go_enter Try.func103, Try.ntmps103
      go_wp2_with fail
      refine (HL.out _).mono ?_
      rintro e w1 ⟨rfl, hb1⟩
      have HB1 : Hid (Below w.heap.size w w1) := HBX.out.trans (hb1.mono HBX.out.size)
      clear hb1
      go_wp2_with fail
      go_ret
      exact ⟨ret_str HV.out, HB1.out⟩
    · obtain ⟨hn0, hn1⟩ := HS.out.num ho
      obtain ⟨n, hn⟩ : ∃ n : Nat, t.num = (n : Int) := ⟨t.num.toNat, by omega⟩
      have HV : Hid ((⟨#[byt (65 + n)]⟩ : ByteArray) = textB t) := by unfold Hid textB; rw [textT_leaf hk0, if_neg (by omega), if_neg (by omega), hn]; rfl
      have HL := mkHid fun W => l1Letter_calls 65 n W (by omega) (by omega)
      rw [ho, hn] at HBX ⊢
      clear ho hk0 hn0 hn1 hn
      go_enter Try.func103, Try.ntmps103
      go_wp2_with fail
      refine (HL.out _).mono ?_
      rintro e w1 ⟨rfl, hb1⟩
      have HB1 : Hid (Below w.heap.size w w1) := HBX.out.trans (hb1.mono HBX.out.size)
      clear hb1
      go_wp2_with fail
      go_ret
      exact ⟨ret_str HV.out, HB1.out⟩
  · have hl1 : t.kids.length = 1 := by rw [hk1]; rfl
    have hkf := HKI.out 0 (by omega)
    simp only [hk1, List.getElem_cons_zero] at hkf
    obtain ⟨bl, off, adk, capk, rfl, c0, c1, c2, hsz, hc⟩ := hkf
    have HC := mkHid hc
    obtain ⟨B, hB⟩ : ∃ B, B = textB a := ⟨_, rfl⟩
    have HV : Hid ((⟨if t.op = 6 then #[126] else #[94]⟩ : ByteArray) ++ B = textB t) := by
      unfold Hid textB
      rw [textT_one hk1, hB]
      unfold textB
      split <;> rw [ByteArray.mk_append_mk] <;> simp
    have k0 := old_cell c0 (.cells #[.int .i64 t.op, .int .i64 t.num, .slice (some ⟨bl, off, none⟩) 1 cap] 30)
    have k1 := old_cell c1 (.cells #[.int .i64 t.op, .int .i64 t.num, .slice (some ⟨bl, off, none⟩) 1 cap] 30)
    have k2 := old_cell c2 (.cells #[.int .i64 t.op, .int .i64 t.num, .slice (some ⟨bl, off, none⟩) 1 cap] 30)
    rw [← hB] at HC hsz
    rw [hl1] at HBX ⊢
    simp only [Nat.zero_mul, Nat.add_zero] at k0 k1 k2
    clear hk1 hl1 c0 c1 c2 hc hB
    rcases ho with ho | ho
    all_goals
      rw [ho] at HBX k0 k1 k2 HV ⊢
      clear ho
      go_enter Try.func103, Try.ntmps103
      go_wp2_with fail
      refine (HC.out _ HBX.out).mono ?_
      rintro e w1 ⟨rfl, hb1⟩
      have HB1 : Hid (Below w.heap.size w w1) := HBX.out.trans (hb1.mono HBX.out.size)
      clear hb1 k0 k1 k2
      go_wp2_with fail
      go_ret
      exact ⟨ret_str HV.out, HB1.out⟩
  · have hl2 : t.kids.length = 2 := by rw [hk2]; rfl
    have hkf := HKI.out 0 (by omega)
    have hkg := HKI.out 1 (by omega)
    simp only [hk2, List.getElem_cons_zero, List.getElem_cons_succ] at hkf hkg
    obtain ⟨bl, off, adk, capk, rfl, c0, c1, c2, hsa, hc⟩ := hkf
    obtain ⟨bl', off', adk', capk', he, d0, d1, d2, hsb, hd⟩ := hkg
    simp only [Option.some.injEq, Addr.mk.injEq, and_true] at he
    obtain ⟨rfl, rfl⟩ := he
    obtain ⟨A, hA⟩ : ∃ A, A = textB a := ⟨_, rfl⟩
    obtain ⟨B, hB⟩ : ∃ B, B = textB b := ⟨_, rfl⟩
    have HV5 : Hid (t.op = 5 → (⟨#[60]⟩ : ByteArray) ++ A ++ ⟨#[44]⟩ ++ B ++ ⟨#[62]⟩ = textB t) := by
      intro h5
      unfold textB
      rw [textT_two hk2, if_pos h5, hA, hB]
      unfold textB
      simp [ByteArray.mk_append_mk]
    have HV4 : Hid (t.op ≠ 5 → (⟨#[40]⟩ : ByteArray) ++ A ++ ⟨(signT t.op).toArray⟩ ++ B ++ ⟨#[41]⟩ = textB t) := by
      intro h5
      unfold textB
      rw [textT_two hk2, if_neg h5, hA, hB]
      unfold textB
      simp [ByteArray.mk_append_mk]
    rw [← hA] at hc hsa
    rw [← hB] at hd hsb
    simp only [Nat.zero_mul, Nat.add_zero, Nat.one_mul] at c0 c1 c2 d0 d1 d2
    rw [hl2]
    obtain ⟨o1, ho1⟩ : ∃ o1, o1 = a.op := ⟨_, rfl⟩
    obtain ⟨n1, hn1⟩ : ∃ n1, n1 = a.num := ⟨_, rfl⟩
    obtain ⟨z1, hz1⟩ : ∃ z1, z1 = a.kids.length := ⟨_, rfl⟩
    obtain ⟨o2, ho2⟩ : ∃ o2, o2 = b.op := ⟨_, rfl⟩
    obtain ⟨n2, hn2⟩ : ∃ n2, n2 = b.num := ⟨_, rfl⟩
    obtain ⟨z2, hz2⟩ : ∃ z2, z2 = b.kids.length := ⟨_, rfl⟩
    rw [← ho1] at c0
    rw [← hn1] at c1
    rw [← hz1] at c2
    rw [← ho2] at d0
    rw [← hn2] at d1
    rw [← hz2] at d2
    rw [← ho1, ← hn1, ← hz1] at hc
    rw [← ho2, ← hn2, ← hz2] at hd
    by_cases h5 : t.op = 5
    · rw [h5]
      refine (tx_pair t.num bl off cap o1 n1 z1 capk adk o2 n2 z2 capk' adk' A B w c0 c1 c2 d0 d1 d2 hsa hsb hc hd).mono fun e w' h => ?_
      rw [HV5.out h5] at h
      exact h
    · have hv := HV4.out h5
      have ho3 : t.op = 4 ∨ t.op = 8 ∨ t.op = 9 := by omega
      rcases ho3 with h4 | h4 | h4
      · rw [h4] at hv ⊢
        refine (tx_bin4 t.num bl off cap o1 n1 z1 capk adk o2 n2 z2 capk' adk' A B w c0 c1 c2 d0 d1 d2 hsa hsb hc hd).mono fun e w' h => ⟨h.1.trans (ret_str hv), h.2⟩
      · rw [h4] at hv ⊢
        refine (tx_bin8 t.num bl off cap o1 n1 z1 capk adk o2 n2 z2 capk' adk' A B w c0 c1 c2 d0 d1 d2 hsa hsb hc hd).mono fun e w' h => ⟨h.1.trans (ret_str hv), h.2⟩
      · rw [h4] at hv ⊢
        refine (tx_bin9 t.num bl off cap o1 n1 z1 capk adk o2 n2 z2 capk' adk' A B w c0 c1 c2 d0 d1 d2 hsa hsb hc hd).mono fun e w' h => ⟨h.1.trans (ret_str hv), h.2⟩
  · have hl3 : t.kids.length = 3 := by rw [hk3]; rfl
    have hkf := HKI.out 0 (by omega)
    have hkg := HKI.out 1 (by omega)
    have hkh := HKI.out 2 (by omega)
    simp only [hk3, List.getElem_cons_zero, List.getElem_cons_succ] at hkf hkg hkh
    obtain ⟨bl, off, adk, capk, rfl, c0, c1, c2, hsa, hc⟩ := hkf
    obtain ⟨bl', off', adk', capk', he, d0, d1, d2, hsb, hd⟩ := hkg
    simp only [Option.some.injEq, Addr.mk.injEq, and_true] at he
    obtain ⟨rfl, rfl⟩ := he
    obtain ⟨bl', off', adk2, capk2, he, f0, f1, f2, hsc, hf⟩ := hkh
    simp only [Option.some.injEq, Addr.mk.injEq, and_true] at he
    obtain ⟨rfl, rfl⟩ := he
    have HV : Hid ((⟨#[91]⟩ : ByteArray) ++ textB a ++ ⟨#[63]⟩ ++ textB b ++ ⟨#[58]⟩ ++ textB d ++ ⟨#[93]⟩ = textB t) := by
      unfold Hid textB
      rw [textT_three hk3]
      simp [ByteArray.mk_append_mk]
    simp only [Nat.zero_mul, Nat.add_zero, Nat.one_mul] at c0 c1 c2 d0 d1 d2 f0 f1 f2
    rw [hl3, ho]
    exact (tx_if t.num bl off cap _ _ _ capk adk _ _ _ capk' adk' _ _ _ capk2 adk2 _ _ _ w c0 c1 c2 d0 d1 d2 f0 f1 f2 hsa hsb hsc hc hd hf).mono fun e w' h => ⟨h.1.trans (ret_str HV.out), h.2⟩

theorem l1Text_calls (t : Tr) (hsh : ShE t) (hz : szT t ≤ 1099511627776) : TxSaid t := by
  have key : ∀ (n : Nat) (t : Tr), szT t ≤ n → szT t ≤ 1099511627776 → ShE t → TxSaid t := by
    intro n
    induction n with
    | zero => intro t h0 h1 h2; exact l1Text_step t h2 h1 fun x hx => by omega
    | succ n ih => intro t h0 h1 h2; exact l1Text_step t h2 h1 fun x hx hsx => ih x (by omega) (by omega) hsx
  exact key _ t (Nat.le_refl _) hz hsh
end Go.Proofs.Ytjdlfpdljmohiaa
/-
  THE MODEL's l1Kids AND l1Own.
-/
namespace Go.Proofs.Ytjdlfpdljmohiaa
set_option linter.unusedVariables false
set_option linter.unusedSimpArgs false
open Go.RowKit

set_option maxHeartbeats 400000 in
theorem l1Kids_calls (op : Int) (w : World) : Calls Try.prog 83 #[.int .i64 op] w fun e w' => e = .returned (.int .i64 (arity op)) ∧ w = w' := by
  go_enter Try.func83, Try.ntmps83
  go_wp2_with fail
  all_goals go_ret
  all_goals refine ⟨ret_int ?_, rfl⟩
  all_goals show (_ : Int) = arity op
  all_goals unfold arity
  all_goals simp_all

set_option maxHeartbeats 400000 in
theorem l1Own_calls (op n vars defs : Int) (c : Value) (w : World) : Calls Try.prog 90 #[.agg #[.int .i64 op, .int .i64 n, c], .int .i64 vars, .int .i64 defs] w fun e w' => e = .returned (.bool (ownB op n vars defs)) ∧ Below w.heap.size w w' := by
  go_enter Try.func90, Try.ntmps90
  go_wp2_with fail
  all_goals go_ret
  all_goals refine ⟨ret_bool ?_, (Below.refl _ _).alloc (Nat.le_refl _) _⟩
  all_goals show (_ : Bool) = ownB op n vars defs
  all_goals unfold ownB
  all_goals simp_all
  all_goals (first | omega | rfl)

theorem own_true (op n vars defs : Int) (c : Value) (w : World) (h : ownB op n vars defs = true) : Calls Try.prog 90 #[.agg #[.int .i64 op, .int .i64 n, c], .int .i64 vars, .int .i64 defs] w fun e w' => e = .returned (.bool true) ∧ Below w.heap.size w w' := by
  have := l1Own_calls op n vars defs c w; rwa [h] at this
theorem own_false (op n vars defs : Int) (c : Value) (w : World) (h : ownB op n vars defs = false) : Calls Try.prog 90 #[.agg #[.int .i64 op, .int .i64 n, c], .int .i64 vars, .int .i64 defs] w fun e w' => e = .returned (.bool false) ∧ Below w.heap.size w w' := by
  have := l1Own_calls op n vars defs c w; rwa [h] at this

theorem l1Kids_below (op : Int) (w : World) : Calls Try.prog 83 #[.int .i64 op] w fun e w' => e = .returned (.int .i64 (arity op)) ∧ Below w.heap.size w w' :=
  (l1Kids_calls op w).mono fun _ _ ⟨h, e⟩ => ⟨h, e ▸ Below.refl _ _⟩
end Go.Proofs.Ytjdlfpdljmohiaa
/-
  THE MODEL's ExprValid (l1Kids, l1Own, l1Shape, l1Count, l1Is, ExprValid): which trees it takes for valid; nothing that was there is changed.
-/
namespace Go.Proofs.Ytjdlfpdljmohiaa
set_option linter.unusedVariables false
set_option linter.unusedSimpArgs false
open Go.RowKit

def ShSaid (vars defs : Int) (d : Nat) (t : Tr) : Prop := ∀ (c : Value) (w : World), In w t.kids c →
  Calls Try.prog 96 #[.agg #[.int .i64 t.op, .int .i64 t.num, c], .int .i64 vars, .int .i64 defs, .int .i64 (d : Int)] w fun e w' => e = .returned (.bool (shB vars defs d t)) ∧ Below w.heap.size w w'

set_option maxHeartbeats 400000 in
theorem sh_zero (vars defs : Int) (t : Tr) : ShSaid vars defs 0 t := by
  intro c w hk
  clear hk
  simp only [shB]
  have d1 : decide (((0 : Nat) : Int) < 1) = true := by decide
  go_enter Try.func96, Try.ntmps96
  go_wp2_with fail
  refine wp_region_quiet_below (by kernel_rfl) (by kernel_rfl) ?_
  repeat (any_goals (first | go_big_quiet_step (fail) | quiet_step (fail)))
  refine wpQuiet_nil ?_
  intro _ hw'
  obtain ⟨⟨dq, osq⟩, hw''⟩ := hw'
  subst hw''
  go_wp2_with fail
  go_ret
  exact ⟨rfl, (box_below _ _).trans ((below_regrown _ _ _).mono (by simp))⟩

set_option maxHeartbeats 400000 in
theorem sh_succ (vars defs : Int) (d : Nat) (t : Tr) (hd : d ≤ 16) (ih : ∀ i (hi : i < t.kids.length), ShSaid vars defs d (t.kids[i])) : ShSaid vars defs (d + 1) t := by
  intro c w hk
  have HI : Hid (∀ i (hi : i < t.kids.length), ShSaid vars defs d (t.kids[i])) := ih
  have HK : Hid (In w t.kids c) := hk
  clear ih
  obtain ⟨ad, cap, rfl, hl, hm, -⟩ := hk
  unfold maxLen at hm
  have d1 : decide ((d : Int) + 1 < 1) = false := by simp; omega
  by_cases hlen : (t.kids.length : Int) = arity t.op
  · have t1 : ((t.kids.length : Int) != arity t.op) = false := by simpa using hlen
    cases hown : ownB t.op t.num vars defs with
    | false =>
      have HV : Hid (shB vars defs (d + 1) t = false) := by simp [shB, hown, Hid]
      clear hlen
      push_cast
      go_enter Try.func96, Try.ntmps96
      go_wp2_with fail
      have k0 := cell_regrown (box_cell w #[.int .i64 t.op, .int .i64 t.num, .slice ad t.kids.length cap] 30 0 _ rfl)
      have k1 := cell_regrown (box_cell w #[.int .i64 t.op, .int .i64 t.num, .slice ad t.kids.length cap] 30 1 _ rfl)
      have k2 := cell_regrown (box_cell w #[.int .i64 t.op, .int .i64 t.num, .slice ad t.kids.length cap] 30 2 _ rfl)
      refine wp_region_quiet_below (by kernel_rfl) (by kernel_rfl) ?_
      repeat (any_goals (first | go_big_quiet_step (first | exact quietB (fun W _ => l1Kids_below _ W) _ _ | exact quietB (fun W _ => own_false _ _ _ _ _ W hown) _ _) | quiet_step (first | exact quietB (fun W _ => l1Kids_below _ W) _ _ | exact quietB (fun W _ => own_false _ _ _ _ _ W hown) _ _)))
      refine wpQuiet_nil ?_
      intro _ hw'
      obtain ⟨⟨dq, osq⟩, hw''⟩ := hw'
      subst hw''
      clear k0 k1 k2
      go_wp2_with fail
      go_ret
      exact ⟨ret_bool HV.out.symm, (box_below _ _).trans ((below_regrown _ _ _).mono (by simp))⟩
    | true =>
      have HL : Hid ((t.kids.length : Int) = arity t.op) := hlen
      have HO : Hid (ownB t.op t.num vars defs = true) := hown
      clear hlen
      push_cast
      go_enter Try.func96, Try.ntmps96
      go_wp2_with fail
      have k0 := cell_regrown (box_cell w #[.int .i64 t.op, .int .i64 t.num, .slice ad t.kids.length cap] 30 0 _ rfl)
      have k1 := cell_regrown (box_cell w #[.int .i64 t.op, .int .i64 t.num, .slice ad t.kids.length cap] 30 1 _ rfl)
      have k2 := cell_regrown (box_cell w #[.int .i64 t.op, .int .i64 t.num, .slice ad t.kids.length cap] 30 2 _ rfl)
      refine wp_region_quiet_below (by kernel_rfl) (by kernel_rfl) ?_
      repeat (any_goals (first | go_big_quiet_step (first | exact quietB (fun W _ => l1Kids_below _ W) _ _ | exact quietB (fun W _ => own_true _ _ _ _ _ W hown) _ _) | quiet_step (first | exact quietB (fun W _ => l1Kids_below _ W) _ _ | exact quietB (fun W _ => own_true _ _ _ _ _ W hown) _ _)))
      refine wpQuiet_nil ?_
      intro _ hw'
      obtain ⟨⟨dq, osq⟩, hw''⟩ := hw'
      subst hw''
      have c0 := k0 dq osq
      have c1 := k1 dq osq
      have c2 := k2 dq osq
      have hb0 : Below w.heap.size w (Sort.grow (redrawn (w.alloc (.cells #[.int .i64 t.op, .int .i64 t.num, .slice ad t.kids.length cap] 30)) dq) osq) := (box_below _ _).trans ((below_regrown _ _ _).mono (by simp))
      have hz0 : w.heap.size < (Sort.grow (redrawn (w.alloc (.cells #[.int .i64 t.op, .int .i64 t.num, .slice ad t.kids.length cap] 30)) dq) osq).heap.size := by have := (below_regrown (w.alloc (.cells #[.int .i64 t.op, .int .i64 t.num, .slice ad t.kids.length cap] 30)) dq osq).size; rw [Deep.nblk_alloc] at this; omega
      clear k0 k1 k2 hown t1
      generalize Sort.grow (redrawn (w.alloc (.cells #[.int .i64 t.op, .int .i64 t.num, .slice ad t.kids.length cap] 30)) dq) osq = wx at *
      go_wp2_with fail
      go_loopw [9] (fun i wr => ∃ k : Nat, k ≤ t.kids.length ∧ i = .int .i64 k ∧ (t.kids.take k).all (shB vars defs d) = true ∧ Below wx.heap.size wx wr) (fun i _ => t.kids.length - (intOf i).toNat)
      case atStart => exact ⟨0, Nat.zero_le _, rfl, by simp, Below.refl _ _⟩
      case round =>
        obtain ⟨k, hk, rfl, hall, hb⟩ := hrel
        have HA : Hid ((t.kids.take k).all (shB vars defs d) = true) := hall
        have HB : Hid (Below wx.heap.size wx wr) := hb
        have cr : wr.cell? ⟨w.heap.size, 2, none⟩ = some (.slice ad t.kids.length cap) := (hb.cell (p := ⟨w.heap.size, 2, none⟩) hz0).trans c2
        clear hall c0 c1 c2
        by_cases hlt : k < t.kids.length
        · have hrow' := (HK.out.next hb0).next hb
          have HB0 : Hid (Below w.heap.size w wx) := hb0
          clear hb0 hb
          obtain ⟨ad', cap', he, -, -, hr⟩ := hrow'
          cases he
          rcases hr with hnil | ⟨bl, off, rfl, -, hr⟩
          · rw [hnil] at hlt; simp at hlt
          obtain ⟨p, q, r, e0, e1, e2, ht⟩ := RowOn.at t.kids off k hlt hr
          obtain ⟨rfl, rfl, -, -, hkk⟩ := trOn_iff.1 ht
          have HKK : Hid (In wr t.kids[k].kids r) := hkk
          clear hkk ht hr
          have HB' : Hid (Below w.heap.size w wr) := Hid.out (p := Below w.heap.size w wr) (Below.trans HB0.out (HB.out.mono (Nat.le_of_lt hz0)))
          go_wp2_with fail
          refine (HI.out k hlt r _ HKK.out).mono ?_
          rintro e w1 ⟨rfl, hb1⟩
          have HB1 : Hid (Below wx.heap.size wx w1) := HB.out.trans (hb1.mono HB.out.size)
          have HB2 : Hid (Below w.heap.size w w1) := HB'.out.trans (hb1.mono HB'.out.size)
          clear hb1
          cases hs : shB vars defs d t.kids[k] with
          | false =>
            have HV : Hid (shB vars defs (d + 1) t = false) := by
              have := all_false_of (shB vars defs d) t.kids k hlt hs
              simp [Hid, shB, this]
            clear hs
            go_wp2_with fail
            go_ret
            exact ⟨ret_bool HV.out.symm, HB2.out⟩
          | true =>
            have HV : Hid ((t.kids.take (k + 1)).all (shB vars defs d) = true) := by
              rw [Hid, all_take_succ _ _ _ hlt, HA.out, hs]; rfl
            clear hs
            go_wp2_with fail
            go_roundw
            case rel => exact ⟨k + 1, by omega, by go_num, HV.out, HB1.out⟩
            case measure => simp [intOf]; omega
        · have hke : t.kids.length = k := by omega
          have HV : Hid (shB vars defs (d + 1) t = true) := by
            have e : t.kids.take k = t.kids := by rw [← hke]; exact List.take_length
            have := HA.out
            rw [e] at this
            simp [Hid, shB, HL.out, HO.out, this]
          have HB' : Hid (Below w.heap.size w wr) := hb0.trans (hb.mono (Nat.le_of_lt hz0))
          clear hke hb0 hb
          go_wp2_with fail
          go_ret
          exact ⟨ret_bool HV.out.symm, HB'.out⟩
  · have t1 : ((t.kids.length : Int) != arity t.op) = true := by simpa using hlen
    have HV : Hid (shB vars defs (d + 1) t = false) := by simp [shB, hlen, Hid]
    clear hlen
    push_cast
    go_enter Try.func96, Try.ntmps96
    go_wp2_with fail
    have k0 := cell_regrown (box_cell w #[.int .i64 t.op, .int .i64 t.num, .slice ad t.kids.length cap] 30 0 _ rfl)
    have k1 := cell_regrown (box_cell w #[.int .i64 t.op, .int .i64 t.num, .slice ad t.kids.length cap] 30 1 _ rfl)
    have k2 := cell_regrown (box_cell w #[.int .i64 t.op, .int .i64 t.num, .slice ad t.kids.length cap] 30 2 _ rfl)
    refine wp_region_quiet_below (by kernel_rfl) (by kernel_rfl) ?_
    repeat (any_goals (first | go_big_quiet_step (exact quietB (fun W _ => l1Kids_below _ W) _ _) | quiet_step (exact quietB (fun W _ => l1Kids_below _ W) _ _)))
    refine wpQuiet_nil ?_
    intro _ hw'
    obtain ⟨⟨dq, osq⟩, hw''⟩ := hw'
    subst hw''
    clear k0 k1 k2
    go_wp2_with fail
    go_ret
    exact ⟨ret_bool HV.out.symm, (box_below _ _).trans ((below_regrown _ _ _).mono (by simp))⟩

theorem sh_any (vars defs : Int) : ∀ (d : Nat) (t : Tr), d ≤ 17 → ShSaid vars defs d t := by
  intro d
  induction d with
  | zero => intro t _; exact sh_zero vars defs t
  | succ d ih => intro t h; exact sh_succ vars defs d t (by omega) fun i hi => ih _ (by omega)

/-! ### The count of nodes -/

/-- what l1Count answers: the number of nodes, or one more than the bound -/
def cntOut (t : Tr) (most : Int) : Int := if 1 + (szT t : Int) ≤ most then 1 + szT t else most + 1

/-- the count behind the first k operands -/
def cntAt (t : Tr) (most : Int) (k : Nat) : Int := if 1 + (szL (t.kids.take k) : Int) ≤ most then 1 + szL (t.kids.take k) else most + 1

theorem cntAt_zero (t : Tr) (most : Int) (h : 0 ≤ most) : cntAt t most 0 = 1 := by
  unfold cntAt; simp [szL]; omega
theorem cntAt_step (t : Tr) (most : Int) (k : Nat) (hk : k < t.kids.length) (h : cntAt t most k ≤ most) : cntAt t most k + cntOut t.kids[k] (most - cntAt t most k) = cntAt t most (k + 1) := by
  have e := szL_take_succ t.kids k hk
  unfold cntAt at h ⊢
  unfold cntOut
  rw [e]
  split at h
  · rename_i h1
    rw [if_pos h1]
    split
    · rw [if_pos (by omega)]; omega
    · rw [if_neg (by omega)]; omega
  · omega
theorem cntAt_end (t : Tr) (most : Int) (k : Nat) (hk : k ≤ t.kids.length) (h : k = t.kids.length ∨ most < cntAt t most k) : cntOut t most = cntAt t most k := by
  have e := szL_take_le t.kids k
  unfold cntOut cntAt at *
  rw [szT_eq]
  rcases h with rfl | h
  · rw [List.take_length]
  · split at h
    · omega
    · rename_i h1; rw [if_neg h1, if_neg (by omega)]
theorem cntAt_range (t : Tr) (most : Int) (k : Nat) (h : 0 ≤ most) : 1 ≤ cntAt t most k ∧ cntAt t most k ≤ most + 1 := by
  unfold cntAt; split <;> omega
theorem cntOut_range (t : Tr) (most : Int) (h : 0 ≤ most) : 1 ≤ cntOut t most ∧ cntOut t most ≤ most + 1 := by
  unfold cntOut; split <;> omega

def CntSaid (t : Tr) : Prop := ∀ (c : Value) (most : Int) (w : World), In w t.kids c → 0 ≤ most → most ≤ 1000 →
  Calls Try.prog 97 #[.agg #[.int .i64 t.op, .int .i64 t.num, c], .int .i64 most] w fun e w' => e = .returned (.int .i64 (cntOut t most)) ∧ Below w.heap.size w w'

set_option maxHeartbeats 400000 in
theorem cnt_step (t : Tr) (ih : ∀ i (hi : i < t.kids.length), CntSaid (t.kids[i])) : CntSaid t := by
  intro c most w hk h0 h1
  have HI : Hid (∀ i (hi : i < t.kids.length), CntSaid (t.kids[i])) := ih
  have HK : Hid (In w t.kids c) := hk
  clear ih
  obtain ⟨ad, cap, rfl, hl, hm, -⟩ := hk
  unfold maxLen at hm
  go_enter Try.func97, Try.ntmps97
  go_wp2_with fail
  have hz : w.heap.size < (w.alloc (.cells #[.int .i64 t.op, .int .i64 t.num, .slice ad t.kids.length cap] 30)).heap.size := by rw [Deep.nblk_alloc]; omega
  have c2 := box_cell w #[.int .i64 t.op, .int .i64 t.num, .slice ad t.kids.length cap] 30 2 _ rfl
  have hbx := box_below w (.cells #[.int .i64 t.op, .int .i64 t.num, .slice ad t.kids.length cap] 30)
  generalize w.alloc (.cells #[.int .i64 t.op, .int .i64 t.num, .slice ad t.kids.length cap] 30) = wx at *
  have HBX : Hid (Below w.heap.size w wx) := hbx
  clear hbx
  go_loopw [5, 6] (fun n i wr => ∃ k : Nat, k ≤ t.kids.length ∧ i = .int .i64 k ∧ n = .int .i64 (cntAt t most k) ∧ Below wx.heap.size wx wr) (fun _ i _ => t.kids.length - (intOf i).toNat)
  case atStart => exact ⟨0, Nat.zero_le _, rfl, by rw [cntAt_zero t most h0], Below.refl _ _⟩
  case round =>
    obtain ⟨k, hk, rfl, rfl, hb⟩ := hrel
    have HB : Hid (Below wx.heap.size wx wr) := hb
    have HBW : Hid (Below w.heap.size w wr) := HBX.out.trans (hb.mono (Nat.le_of_lt hz))
    have cr : wr.cell? ⟨w.heap.size, 2, none⟩ = some (.slice ad t.kids.length cap) := (hb.cell (p := ⟨w.heap.size, 2, none⟩) hz).trans c2
    have hrg := cntAt_range t most k h0
    clear hb c2
    by_cases hlt : k < t.kids.length
    · by_cases hn : cntAt t most k ≤ most
      · have hrow' := HK.out.next HBW.out
        obtain ⟨ad', cap', he, -, -, hr⟩ := hrow'
        cases he
        rcases hr with hnil | ⟨bl, off, rfl, -, hr⟩
        · rw [hnil] at hlt; simp at hlt
        obtain ⟨p, q, r, e0, e1, e2, ht⟩ := RowOn.at t.kids off k hlt hr
        obtain ⟨rfl, rfl, -, -, hkk⟩ := trOn_iff.1 ht
        have HKK : Hid (In wr t.kids[k].kids r) := hkk
        clear hkk ht hr
        go_wp2_with fail
        refine (HI.out k hlt r _ _ HKK.out (by omega) (by omega)).mono ?_
        rintro e w1 ⟨rfl, hb1⟩
        have HB1 : Hid (Below wx.heap.size wx w1) := HB.out.trans (hb1.mono HB.out.size)
        clear hb1
        have hro := cntOut_range t.kids[k] (most - cntAt t most k) (by omega)
        have HV : Hid (cntAt t most k + cntOut t.kids[k] (most - cntAt t most k) = cntAt t most (k + 1)) := cntAt_step t most k hlt hn
        go_wp2_with fail
        go_roundw
        case rel => exact ⟨k + 1, by omega, by go_num, by rw [HV.out], HB1.out⟩
        case measure => simp [intOf]; omega
      · have HV : Hid (cntOut t most = cntAt t most k) := cntAt_end t most k hk (Or.inr (by omega))
        go_wp2_with fail
        go_ret
        exact ⟨ret_int HV.out.symm, HBW.out⟩
    · have HV : Hid (cntOut t most = cntAt t most k) := cntAt_end t most k hk (Or.inl (by omega))
      go_wp2_with fail
      all_goals go_ret
      all_goals exact ⟨ret_int HV.out.symm, HBW.out⟩

theorem cnt_any : ∀ (n : Nat) (t : Tr), szT t ≤ n → CntSaid t := by
  intro n
  induction n with
  | zero =>
    intro t h
    exact cnt_step t fun i hi => absurd (szT_lt_szL t.kids i hi) (by rw [szT_eq] at h; omega)
  | succ n ih =>
    intro t h
    exact cnt_step t fun i hi => ih _ (by have := szT_lt_szL t.kids i hi; rw [szT_eq] at h; omega)
theorem cnt_calls (t : Tr) : CntSaid t := cnt_any _ t (Nat.le_refl _)

/-! ### l1Is, ExprValid -/

/-- valid with these variables and functions -/
def isB (t : Tr) (vars defs : Int) : Bool := shB vars defs 16 t && decide (1 + (szT t : Int) ≤ 60)

set_option maxHeartbeats 400000 in
theorem l1Is_calls (t : Tr) (vars defs : Int) (c : Value) (w : World) (hk : In w t.kids c) : Calls Try.prog 88 #[.agg #[.int .i64 t.op, .int .i64 t.num, c], .int .i64 vars, .int .i64 defs] w fun e w' => e = .returned (.bool (isB t vars defs)) ∧ Below w.heap.size w w' := by
  have HK : Hid (In w t.kids c) := hk
  clear hk
  go_enter Try.func88, Try.ntmps88
  go_wp2_with fail
  refine (sh_any vars defs 16 t (by omega) c _ (HK.out.next (box_below _ _))).mono ?_
  rintro e w1 ⟨rfl, hb1⟩
  have HB : Hid (Below w.heap.size w w1) := (box_below _ _).trans (hb1.mono (by rw [Deep.nblk_alloc]; omega))
  have c0 := (hb1.cell (p := ⟨w.heap.size, 0, none⟩) (by rw [Deep.nblk_alloc]; exact Nat.lt_succ_self _)).trans (box_cell w #[.int .i64 t.op, .int .i64 t.num, c] 30 0 _ rfl)
  have c1 := (hb1.cell (p := ⟨w.heap.size, 1, none⟩) (by rw [Deep.nblk_alloc]; exact Nat.lt_succ_self _)).trans (box_cell w #[.int .i64 t.op, .int .i64 t.num, c] 30 1 _ rfl)
  have c2 := (hb1.cell (p := ⟨w.heap.size, 2, none⟩) (by rw [Deep.nblk_alloc]; exact Nat.lt_succ_self _)).trans (box_cell w #[.int .i64 t.op, .int .i64 t.num, c] 30 2 _ rfl)
  clear hb1
  cases hs : shB vars defs 16 t with
  | false =>
    have HV : Hid (isB t vars defs = false) := by simp [Hid, isB, hs]
    clear hs
    go_wp2_with fail
    go_ret
    exact ⟨ret_bool HV.out.symm, HB.out⟩
  | true =>
    have HV : Hid (isB t vars defs = decide (cntOut t 60 ≤ 60)) := by
      simp only [Hid, isB, hs, Bool.true_and]
      unfold cntOut
      split
      · rename_i h; simp [h]
      · rename_i h; simp [h]
    clear hs
    go_wp2_with fail
    refine (cnt_calls t c _ _ (HK.out.next HB.out) (by omega) (by omega)).mono ?_
    rintro e w2 ⟨rfl, hb2⟩
    have HB2 : Hid (Below w.heap.size w w2) := HB.out.trans (hb2.mono HB.out.size)
    clear hb2
    go_wp2_with fail
    go_ret
    exact ⟨ret_bool HV.out.symm, HB2.out⟩
end Go.Proofs.Ytjdlfpdljmohiaa
/-
  THE MODEL's l1Any.
-/
namespace Go.Proofs.Ytjdlfpdljmohiaa
set_option linter.unusedVariables false
set_option linter.unusedSimpArgs false
open Go.RowKit

theorem validB_is2 (t : Tr) (vars defs : Int) (h : 0 ≤ vars ∧ vars ≤ 4 ∧ 0 ≤ defs ∧ defs ≤ 6) : validB t vars defs = isB t vars defs := by
  unfold validB isB
  rw [decide_eq_true h, Bool.true_and]
  congr 1
  exact decide_eq_decide.2 (by omega)
set_option maxHeartbeats 400000 in
theorem l1Any_calls (t : Tr) (c : Value) (w : World) (hk : In w t.kids c) :
    Calls Try.prog 102 #[.agg #[.int .i64 t.op, .int .i64 t.num, c]] w fun e w' => e = .returned (.bool (validB t 4 6)) ∧ Below w.heap.size w w' := by
  have HK : Hid (In w t.kids c) := hk
  obtain ⟨ad, cap, rfl, -, -, -⟩ := hk
  rw [validB_is2 t 4 6 (by omega)]
  go_enter Try.func102, Try.ntmps102
  go_wp2_with fail
  refine (l1Is_calls t 4 6 _ _ (HK.out.next (box_below _ _))).mono ?_
  rintro e w1 ⟨rfl, hb1⟩
  obtain ⟨-, -, -, -, HB1⟩ := box_after hb1
  have HB1 : Hid (Below w.heap.size w w1) := HB1
  clear hb1
  go_wp2_with fail
  go_ret
  exact ⟨rfl, HB1.out⟩

end Go.Proofs.Ytjdlfpdljmohiaa
/-
  THE MODEL's ParseExpr.
-/
namespace Go.Proofs.Ytjdlfpdljmohiaa
set_option linter.unusedVariables false
set_option linter.unusedSimpArgs false
open Go.RowKit

theorem valid_sz60 {t : Tr} {vars defs : Int} (h : validB t vars defs = true) : szT t ≤ 60 := by
  unfold validB at h
  simp only [Bool.and_eq_true, decide_eq_true_eq] at h
  omega
/-- what ParseExpr answers -/
def parseE (s : ByteArray) : Tr × Bool :=
  if s.size ≠ 0 ∧ (parseT s 16 0).2 = s.size ∧ validB (parseT s 16 0).1 4 6 = true ∧ textB (parseT s 16 0).1 = s then ((parseT s 16 0).1, true) else (nilT, false)
def PeRes (r : Tr × Bool) (w : World) (e : Ending) (w' : World) : Prop := ∃ kv, e = .returned (.tuple #[.agg #[.int .i64 r.1.op, .int .i64 r.1.num, kv], .bool r.2]) ∧ KidsOn w' (PN w.heap.size w') r.1.kids kv ∧ Below w.heap.size w w'
theorem PeRes.nil {r : Tr × Bool} {w w' : World} (h : r = (nilT, false)) (hb : Below w.heap.size w w') : PeRes r w (.returned (.tuple #[.agg #[.int .i64 0, .int .i64 0, .slice none 0 0], .bool false])) w' := by
  subst h
  exact ⟨_, rfl, ⟨none, 0, rfl, Nat.le_refl _, by simp [maxLen], Or.inl rfl⟩, hb⟩
theorem pe_yes {w w1 : World} {x : Tr} {kv : Value} (h1 : Below w.heap.size w w1) (hs1 : w.heap.size + 1 ≤ w1.heap.size) (hk : KidsOn w1 (PN (w.heap.size + 1) w1) x.kids kv) :
    PeRes (x, true) w (.returned (.tuple #[.agg #[.int .i64 x.op, .int .i64 x.num, kv], .bool true])) (((w1.setCell ⟨w.heap.size, 0, none⟩ (.int .i64 x.op)).setCell ⟨w.heap.size, 1, none⟩ (.int .i64 x.num)).setCell ⟨w.heap.size, 2, none⟩ kv) := by
  have hF := set3_below h1 (.int .i64 x.op) (.int .i64 x.num) kv
  refine ⟨kv, rfl, hk.mono (fun k hk => hk.go (by omega) (set3_heap _ _ _ _ _ _ (by have : w.heap.size + 1 ≤ k := hk.1; omega))) (fun k hk => set3_heap _ _ _ _ _ _ (by have : w.heap.size + 1 ≤ k := hk.1; omega)), hF⟩

set_option maxRecDepth 100000 in
set_option maxHeartbeats 1600000 in
theorem specParseExpr_calls (s : ByteArray) (w : World) (hs : s.size ≤ 1099511627776) :
    Calls Try.prog 95 #[.string s] w (PeRes (parseE s) w) := by
  obtain ⟨r, hr⟩ : ∃ r, r = parseE s := ⟨_, rfl⟩
  rw [← hr]
  unfold parseE at hr
  have HPC : Hid (∀ W, Calls Try.prog 101 #[.string s, .int .i64 0, .int .i64 16] W (PaRes (parseT s 16 0) W)) := fun W => l1Parse_said s hs 16 (by decide) 0 W (by omega) (by omega)
  have HRG := mkHid (parseT_rng s 16 0)
  obtain ⟨q, hq⟩ : ∃ q, q = parseT s 16 0 := ⟨_, rfl⟩
  rw [← hq] at HPC HRG hr
  obtain ⟨x, nx⟩ := q
  have HXI := mkHid HRG.out.i64
  have HR := mkHid hr
  clear hr hq HRG
  simp only [] at HR
  go_enter Try.func95, Try.ntmps95
  go_wp2_with fail
  refine (HPC.out _).mono ?_
  rintro e1 w1 ⟨kv, rfl, hkv, hb1⟩
  obtain ⟨adk, capk, rfl, -, -, -⟩ := id hkv
  rw [Deep.nblk_alloc] at hkv
  have HKV := mkHid hkv
  obtain ⟨-, -, -, hs0, hbw⟩ := box_after hb1
  have hs1 : w.heap.size + 1 ≤ w1.heap.size := hs0
  have HBW1 := mkHid hbw
  have HBX : Hid (∀ W, Below w1.heap.size w1 W → W.heap[w.heap.size]? = some (.cells #[.int .i64 0, .int .i64 0, .slice none 0 0] 30)) := fun W hb => (hb.block _ (by omega)).trans ((hb1.block _ (by rw [Deep.nblk_alloc]; omega)).trans (Deep.blk_alloc_new _ _))
  obtain ⟨o, ho⟩ : ∃ o, o = x.op := ⟨_, rfl⟩
  obtain ⟨m, hm⟩ : ∃ m, m = x.num := ⟨_, rfl⟩
  obtain ⟨z, hz⟩ : ∃ z, z = x.kids.length := ⟨_, rfl⟩
  simp only []
  rw [← ho, ← hm, ← hz]
  rw [← hz] at HKV
  have HOM := mkHid (And.intro ho (And.intro hm hz))
  have HA1 : Hid (Below w1.heap.size w1 (w1.alloc (.cells #[.int .i64 o, .int .i64 m, .slice adk z capk] 30))) := box_below _ _
  have HD1 : Hid ((w1.alloc (.cells #[.int .i64 o, .int .i64 m, .slice adk z capk] 30)).heap[w1.heap.size]? = some (.cells #[.int .i64 o, .int .i64 m, .slice adk z capk] 30)) := Deep.blk_alloc_new _ _
  have HIN : Hid (In (w1.alloc (.cells #[.int .i64 o, .int .i64 m, .slice adk z capk] 30)) x.kids (.slice adk z capk)) := HKV.out.mono (fun k hk => by show k < (w1.alloc _).heap.size; rw [Deep.nblk_alloc]; have : k < w1.heap.size := hk.2.1; omega) fun k hk => HA1.out.block k hk.2.1
  have HBS1 : Hid (w1.heap.size < (w1.alloc (.cells #[.int .i64 o, .int .i64 m, .slice adk z capk] 30)).heap.size) := by rw [Hid, Deep.nblk_alloc]; omega
  have HAN := mkHid (l1Any_calls x (.slice adk z capk) _ HIN.out)
  rw [← ho, ← hm] at HAN
  clear hkv hb1 hbw hs0 ho hm hz
  have d0 := HBX.out _ HA1.out
  have q0 := cell_of_blk d0 0 _ rfl
  have q1 := cell_of_blk d0 1 _ rfl
  have q2 := cell_of_blk d0 2 _ rfl
  have qf := fun i => frz_of_blk d0 i
  have a0 := cell_of_blk HD1.out 0 _ rfl
  have a1 := cell_of_blk HD1.out 1 _ rfl
  have a2 := cell_of_blk HD1.out 2 _ rfl
  clear d0
  by_cases he : s.size = 0
  · have hse : s = ⟨#[]⟩ := by
      cases s with
      | mk a => congr; exact Array.eq_empty_of_size_eq_zero he
    have HV : Hid (r = (nilT, false)) := by rw [Hid, HR.out, if_neg (fun h => h.1 he)]
    clear HPC HR
    subst hse
    go_wp2_with fail
    exact bodyPost_ret (v := .tuple #[.agg #[.int .i64 0, .int .i64 0, .slice none 0 0], .bool false]) (by simp [results, Try.results95, go_sem, q0, q1, q2, qf]) rfl (PeRes.nil HV.out (set3_below (HBW1.out.trans (HA1.out.mono (by omega))) _ _ _))
  have HNE : Hid (s ≠ ⟨#[]⟩) := fun h => he (by rw [h]; rfl)
  have n1 : ¬ s = ⟨#[]⟩ := HNE.out
  have n2 : s.toList.isEmpty = false := by
    rw [ByteArray.toList_eq, Array.isEmpty_toList]
    cases h : s.data.isEmpty with
    | false => rfl
    | true => exact absurd (by have := Array.isEmpty_iff.1 h; show s.data.size = 0; rw [this]; rfl) he
  have n3 : ¬ s.size = 0 := he
  clear he
  by_cases hn : nx = s.size
  case neg =>
    have HV : Hid (r = (nilT, false)) := by rw [Hid, HR.out, if_neg (fun h => hn h.2.1)]
    go_wp2_with fail
    exact bodyPost_ret (v := .tuple #[.agg #[.int .i64 0, .int .i64 0, .slice none 0 0], .bool false]) (by simp [results, Try.results95, go_sem, q0, q1, q2, qf]) rfl (PeRes.nil HV.out (set3_below (HBW1.out.trans (HA1.out.mono (by omega))) _ _ _))
  subst hn
  go_wp2_with fail
  refine HAN.out.mono ?_
  rintro e2 w2 ⟨rfl, hb2⟩
  have HB2 : Hid (Below w1.heap.size w1 w2) := HA1.out.trans (hb2.mono (by rw [Deep.nblk_alloc]; omega))
  have d0 := HBX.out _ HB2.out
  have q0 := cell_of_blk d0 0 _ rfl
  have q1 := cell_of_blk d0 1 _ rfl
  have q2 := cell_of_blk d0 2 _ rfl
  have qf := fun i => frz_of_blk d0 i
  have HD2 : Hid (w2.heap[w1.heap.size]? = some (.cells #[.int .i64 o, .int .i64 m, .slice adk z capk] 30)) := (hb2.block _ (by rw [Deep.nblk_alloc]; omega)).trans HD1.out
  have a0 := cell_of_blk HD2.out 0 _ rfl
  have a1 := cell_of_blk HD2.out 1 _ rfl
  have a2 := cell_of_blk HD2.out 2 _ rfl
  have HIN2 : Hid (In w2 x.kids (.slice adk z capk)) := HIN.out.next hb2
  have HBS : Hid (w1.heap.size < w2.heap.size) := Nat.lt_of_lt_of_le HBS1.out hb2.size
  clear d0 hb2
  cases hv : validB x 4 6 with
  | false =>
    have HV : Hid (r = (nilT, false)) := by rw [Hid, HR.out, if_neg (fun h => by rw [hv] at h; exact absurd h.2.2.1 (by decide))]
    go_wp2_with fail
    exact bodyPost_ret (v := .tuple #[.agg #[.int .i64 0, .int .i64 0, .slice none 0 0], .bool false]) (by simp [results, Try.results95, go_sem, q0, q1, q2, qf]) rfl (PeRes.nil HV.out (set3_below (HBW1.out.trans (HB2.out.mono (by omega))) _ _ _))
  | true =>
    have HTX := mkHid (l1Text_calls x (ShE.of_valid hv) (Nat.le_trans (valid_sz60 hv) (by decide)) (.slice adk z capk) w2 HIN2.out HXI.out)
    have HO1 := HOM.out
    rw [← HO1.1, ← HO1.2.1] at HTX
    obtain ⟨T, hT⟩ : ∃ T, T = textB x := ⟨_, rfl⟩
    rw [← hT] at HTX HR
    clear hT HO1
    go_wp2_with fail
    refine HTX.out.mono ?_
    rintro e3 w3 ⟨rfl, hb3⟩
    have HB3 : Hid (Below w1.heap.size w1 w3) := HB2.out.trans (hb3.mono HB2.out.size)
    have d0 := HBX.out _ HB3.out
    have q0 := cell_of_blk d0 0 _ rfl
    have q1 := cell_of_blk d0 1 _ rfl
    have q2 := cell_of_blk d0 2 _ rfl
    have qf := fun i => frz_of_blk d0 i
    have HD3 : Hid (w3.heap[w1.heap.size]? = some (.cells #[.int .i64 o, .int .i64 m, .slice adk z capk] 30)) := (hb3.block _ HBS.out).trans HD2.out
    have a0 := cell_of_blk HD3.out 0 _ rfl
    have a1 := cell_of_blk HD3.out 1 _ rfl
    have a2 := cell_of_blk HD3.out 2 _ rfl
    have hs3 : w.heap.size + 1 ≤ w3.heap.size := Nat.le_trans hs1 HB3.out.size
    clear d0 hb3
    by_cases hTs : T = s
    · subst hTs
      have HV : Hid (r = (x, true)) := HR.out.trans (if_pos ⟨n3, by trivial, hv, by first | rfl | trivial⟩)
      go_wp2_with fail
      refine bodyPost_ret (v := .tuple #[.agg #[.int .i64 o, .int .i64 m, .slice adk z capk], .bool true]) (by simp [results, Try.results95, go_sem, q0, q1, q2, qf]) rfl ?_
      obtain ⟨ho, hm, -⟩ := HOM.out
      rw [HV.out, ho, hm]
      exact pe_yes (HBW1.out.trans (HB3.out.mono (by omega))) hs3 (HKV.out.mono (fun k hk => hk.go (Nat.le_refl _) (HB3.out.block k hk.2.1)) fun k hk => HB3.out.block k hk.2.1)
    · have HV : Hid (r = (nilT, false)) := by rw [Hid, HR.out, if_neg (fun h => hTs h.2.2.2)]
      have m1 : ¬ T.toList = s.toList := fun h => hTs (by
        rw [ByteArray.toList_eq, ByteArray.toList_eq] at h
        cases T; cases s; congr; exact Array.toList_inj.1 h)
      have m2 : (T.toList == s.toList) = false := by simpa using m1
      go_wp2_with fail
      exact bodyPost_ret (v := .tuple #[.agg #[.int .i64 0, .int .i64 0, .slice none 0 0], .bool false]) (by simp [results, Try.results95, go_sem, q0, q1, q2, qf]) rfl (PeRes.nil HV.out (set3_below (HBW1.out.trans (HB3.out.mono (by omega))) _ _ _))
end Go.Proofs.Ytjdlfpdljmohiaa
/-
  THE MODEL's l16Cut.
-/
namespace Go.Proofs.Ytjdlfpdljmohiaa
set_option linter.unusedVariables false
set_option linter.unusedSimpArgs false
open Go.RowKit

/-- a text's parts between one byte: the places to come, the place, the part's begin -/
def cutT (s : ByteArray) (c : Nat) : Nat → Nat → Nat → List ByteArray
  | 0, _, _ => []
  | k + 1, i, f => if i = s.size ∨ bN s i = c then s.extract f i :: cutT s c k (i + 1) (i + 1) else cutT s c k (i + 1) f
/-- texts in a row of one's own -/
def OwnS (w : World) (lo : Nat) (xs : List ByteArray) (v : Value) : Prop := w.ownsRow lo 9 1 v xs.length (xs.map .string)
theorem infoS0 : (Try.prog.info? 9).map (fun i => (i.zero, i.size, i.bytes)) = some (some (.string ⟨#[]⟩), 1, 16) := by kernel_rfl
theorem infoS : ∃ i z, Try.prog.info? 9 = some i ∧ i.zero = some z ∧ i.size = 1 ∧ i.bytes = 16 ∧ z.cells.size = 1 := by
  obtain ⟨i, hi, hzz⟩ := Option.map_eq_some_iff.1 infoS0
  simp only [Prod.mk.injEq] at hzz
  obtain ⟨hz, hs, hb⟩ := hzz
  exact ⟨i, _, hi, hz, hs, hb, rfl⟩
theorem cutT_len (s : ByteArray) (c : Nat) : ∀ k i f, (cutT s c k i f).length ≤ k
  | 0, _, _ => Nat.le_refl _
  | k + 1, i, f => by
    unfold cutT
    split
    · have := cutT_len s c k (i + 1) (i + 1); simp; omega
    · have := cutT_len s c k (i + 1) f; omega

set_option maxRecDepth 100000 in
set_option maxHeartbeats 1600000 in
theorem l16Cut_calls (s : ByteArray) (c : Nat) (w : World) (hc : c < 256) (hs : s.size ≤ 1099511627776) :
    Calls Try.prog 98 #[.string s, .int .u8 (c : Int)] w fun e w' => ∃ v, e = .returned v ∧ OwnS w' w.heap.size (cutT s c (s.size + 1) 0 0) v ∧ Below w.heap.size w w' := by
  obtain ⟨r, hr⟩ : ∃ r, r = cutT s c (s.size + 1) 0 0 := ⟨_, rfl⟩
  rw [← hr]
  have HR := mkHid hr
  have HL : Hid (r.length ≤ s.size + 1) := by rw [hr]; exact cutT_len s c _ _ _
  obtain ⟨iE, zE, hiE, hzE, hsE, hbE, hcE⟩ := infoS
  have HE : Hid (Try.prog.info? 9 = some iE ∧ iE.zero = some zE ∧ iE.size = 1 ∧ iE.bytes = 16 ∧ zE.cells.size = 1) := ⟨hiE, hzE, hsE, hbE, hcE⟩
  clear hr hiE hzE hsE hbE hcE
  go_enter Try.func98, Try.ntmps98
  go_wp2_with fail
  go_loopw [5, 6, 7] (fun ov fv iv wr => ∃ (k i f : Nat) (xs : List ByteArray), i + k = s.size + 1 ∧ f ≤ i ∧ fv = .int .i64 (f : Int) ∧ iv = .int .i64 (i : Int) ∧ Hid (OwnS wr w.heap.size xs ov) ∧ Hid (r = xs ++ cutT s c k i f) ∧ Hid (Below w.heap.size w wr)) (fun _ _ iv _ => s.size + 1 - (intOf iv).toNat)
  case atStart =>
    exact ⟨s.size + 1, 0, 0, [], by omega, Nat.le_refl _, rfl, rfl, ⟨rfl, Or.inr ⟨_, 0, #[], rfl, Nat.le_refl _, Deep.blk_alloc_new _ _, Nat.le_refl _, by unfold maxLen; omega, rfl, rfl⟩⟩, HR.out, box_below _ _⟩
  case round =>
    obtain ⟨k, i, f, xs, hik, hfi, rfl, rfl, HO, HRR, HB⟩ := hrel
    cases k with
    | zero =>
      have HV : Hid (r = xs) := by rw [Hid, HRR.out]; simp [cutT]
      have hi : ¬ (i : Int) ≤ s.size := by omega
      go_wp2_with fail
      go_ret
      exact ⟨_, rfl, by rw [HV.out]; exact HO.out, HB.out⟩
    | succ k =>
      have hi : (i : Int) ≤ s.size := by omega
      have hi2 : i ≤ s.size := by omega
      have HXL : Hid (xs.length ≤ s.size + 1) := by
        have := HL.out
        rw [HRR.out, List.length_append] at this
        exact Nat.le_trans (Nat.le_add_right _ _) this
      have HIK := mkHid hik
      obtain ⟨sub, hsub⟩ : ∃ sub, sub = s.extract f i := ⟨_, rfl⟩
      have HSUB := mkHid hsub
      have HSZ : Hid (w.heap.size ≤ (wr.alloc (.cells #[.string (s.extract f i)] 9)).heap.size) := Nat.le_trans HB.out.size (by rw [Deep.nblk_alloc]; omega)
      have HOW : Hid ((wr.alloc (.cells #[.string (s.extract f i)] 9)).ownsRow w.heap.size 9 1 u5 xs.length (xs.map .string)) := own_keep HO.out fun b _ hb => (box_below wr _).block b hb
      clear hik hsub
      by_cases hie : i = s.size
      · have HV : Hid (r = (xs ++ [sub]) ++ cutT s c k (i + 1) (i + 1)) := by rw [Hid, HRR.out, cutT, if_pos (Or.inl hie), HSUB.out, List.append_assoc]; rfl
        have hie2 : ((i : Int) == (s.size : Int)) = true := by rw [hie]; exact beq_self_eq_true _
        clear hie
        go_wp2_with (first
          | (at_builtin; refine wpList_append_at rfl _ _ 126 rfl (wr.alloc (.cells #[.string (s.extract f i)] 9)) w.heap.size 9 iE zE 1 16 Try.underlying126 HE.out.1 HE.out.2.1 HE.out.2.2.1 HE.out.2.2.2.1 HE.out.2.2.2.2 (by decide) u5 xs.length (xs.map .string) rfl HOW.out ⟨wr.heap.size, 0, none⟩ 1 1 [.string (s.extract f i)] rfl rfl (fun j u hu => by rw [WideShapes.add_plain, Nat.zero_add]; exact box_cell wr #[.string (s.extract f i)] _ j u (by simpa using hu)) (fun u hu => by simp only [List.mem_cons, List.not_mem_nil, or_false] at hu; rcases hu with rfl; rfl) (by have := HXL.out; unfold maxLen; omega) (by have := HXL.out; omega) HSZ.out ?_; intro v' w3 hown' hgrow hnil hat; have HX3 := mkHid hown'; have HG3 := mkHid hgrow; clear hown' hgrow hnil hat)
          | go_in)
        refine ⟨⟨k, i + 1, i + 1, xs ++ [sub], by have := HIK.out; omega, Nat.le_refl _, by simp, by simp, ?_, HV.out, ?_⟩, by simp only [intOf]; omega⟩
        · have h := HX3.out
          rw [← HSUB.out] at h
          show w3.ownsRow _ _ _ _ _ _
          simpa using h
        · exact (HB.out.trans (box_below wr _ |>.mono HB.out.size)).grown HG3.out HSZ.out fun g e => (own_some HOW.out g e).1
      · have hlt : i < s.size := by omega
        have hlt2 : ¬ s.size = i := fun h => hie h.symm
        have hb := bN_at hlt
        by_cases hbc : bN s i = c
        · have HV : Hid (r = (xs ++ [sub]) ++ cutT s c k (i + 1) (i + 1)) := by rw [Hid, HRR.out, cutT, if_pos (Or.inr hbc), HSUB.out, List.append_assoc]; rfl
          rw [hbc] at hb
          clear hbc
          go_wp2_with (first
            | (at_builtin; refine wpList_append_at rfl _ _ 126 rfl (wr.alloc (.cells #[.string (s.extract f i)] 9)) w.heap.size 9 iE zE 1 16 Try.underlying126 HE.out.1 HE.out.2.1 HE.out.2.2.1 HE.out.2.2.2.1 HE.out.2.2.2.2 (by decide) u5 xs.length (xs.map .string) rfl HOW.out ⟨wr.heap.size, 0, none⟩ 1 1 [.string (s.extract f i)] rfl rfl (fun j u hu => by rw [WideShapes.add_plain, Nat.zero_add]; exact box_cell wr #[.string (s.extract f i)] _ j u (by simpa using hu)) (fun u hu => by simp only [List.mem_cons, List.not_mem_nil, or_false] at hu; rcases hu with rfl; rfl) (by have := HXL.out; unfold maxLen; omega) (by have := HXL.out; omega) HSZ.out ?_; intro v' w3 hown' hgrow hnil hat; have HX3 := mkHid hown'; have HG3 := mkHid hgrow; clear hown' hgrow hnil hat)
            | go_in)
          refine ⟨⟨k, i + 1, i + 1, xs ++ [sub], by have := HIK.out; omega, Nat.le_refl _, by simp, by simp, ?_, HV.out, ?_⟩, by simp only [intOf]; omega⟩
          · have h := HX3.out
            rw [← HSUB.out] at h
            show w3.ownsRow _ _ _ _ _ _
            simpa using h
          · exact (HB.out.trans (box_below wr _ |>.mono HB.out.size)).grown HG3.out HSZ.out fun g e => (own_some HOW.out g e).1
        · have HV : Hid (r = xs ++ cutT s c k (i + 1) f) := by rw [Hid, HRR.out, cutT, if_neg (by rintro (h | h); exact hie h; exact hbc h)]
          have hbc2 : ((bN s i : Int) == (c : Int)) = false := by simp; omega
          generalize bN s i = b at hb hbc2 hbc
          clear hbc
          go_wp2_with fail
          refine ⟨⟨k, i + 1, f, xs, by have := HIK.out; omega, by omega, rfl, by simp, HO, HV.out, HB⟩, by simp only [intOf]; omega⟩
end Go.Proofs.Ytjdlfpdljmohiaa
/-
  THE LAWS' OWN COUNT OF AN ARGUMENT (szExpr, szExprS): what is left of the budget; nothing that was there is changed.
-/
namespace Go.Proofs.Ytjdlfpdljmohiaa
set_option linter.unusedVariables false
set_option linter.unusedSimpArgs false
open Go.RowKit

theorem szOut_range (ks : List Tr) (left : Int) (h : 0 ≤ left) : -1 ≤ szOut ks left ∧ szOut ks left ≤ left := by
  unfold szOut; split <;> omega

/-- the budget behind the first i elements -/
def szAt (ks : List Tr) (left : Int) (i : Nat) : Int := left - ks.length - sumT (ks.take i)

theorem szOut_kid (ks : List Tr) (left : Int) (i : Nat) (hi : i < ks.length) (h : 0 ≤ szOut (ks[i]).kids (szAt ks left i)) : szOut (ks[i]).kids (szAt ks left i) = szAt ks left (i + 1) := by
  unfold szOut at h ⊢
  split at h
  · rename_i h1
    rw [if_pos h1]
    unfold szAt
    rw [sumT_take_succ ks i hi, szT_eq]
    omega
  · omega

theorem szOut_neg (ks : List Tr) (left : Int) (i : Nat) (hi : i < ks.length) (h : szOut (ks[i]).kids (szAt ks left i) < 0) (h0 : 0 ≤ szAt ks left i) : szOut ks left = -1 := by
  unfold szOut at h
  split at h
  · omega
  · rename_i h1
    unfold szOut
    rw [if_neg]
    have := sumT_take_succ ks i hi
    have := sumT_take_le ks (i + 1)
    rw [szL_sum]
    rw [szT_eq] at *
    unfold szAt at h1
    omega

theorem szOut_end (ks : List Tr) (left : Int) (h0 : 0 ≤ szAt ks left ks.length) : szOut ks left = szAt ks left ks.length := by
  unfold szAt at h0 ⊢
  unfold szOut
  rw [List.take_length] at *
  rw [szL_sum, if_pos (by omega)]
  omega

end Go.Proofs.Ytjdlfpdljmohiaa
