/-
  THE LAWS' OWN COUNT OF AN ARGUMENT (szExpr, szExprS): what is left of the budget; nothing that was there is changed.
-/
import Derived.Test.YtiipcgnkfhjpeaaPlain
import Derived.Test.YtiipcgnkfhjpeaaProg
namespace Go.Proofs.Ytiipcgnkfhjpeaa
set_option linter.unusedVariables false
set_option linter.unusedSimpArgs false
open Go.RowKit

theorem szOut_range (ks : List Tr) (left : Int) (h : 0 ≤ left) : -1 ≤ szOut ks left ∧ szOut ks left ≤ left := by
  unfold szOut; split <;> omega

/-- the budget behind the first i elements -/
def szAt (ks : List Tr) (left : Int) (i : Nat) : Int := left - ks.length - sumT (ks.take i)

theorem szOut_kid (ks : List Tr) (left : Int) (i : Nat) (hi : i < ks.length) (h : 0 ≤ szOut (ks[i]).kids (szAt ks left i)) : szOut (ks[i]).kids (szAt ks left i) = szAt ks left (i + 1) := by
  unfold szOut at h ⊢
  split at h
  · rename_i h1
    rw [if_pos h1]
    unfold szAt
    rw [sumT_take_succ ks i hi, szT_eq]
    omega
  · omega

theorem szOut_neg (ks : List Tr) (left : Int) (i : Nat) (hi : i < ks.length) (h : szOut (ks[i]).kids (szAt ks left i) < 0) (h0 : 0 ≤ szAt ks left i) : szOut ks left = -1 := by
  unfold szOut at h
  split at h
  · omega
  · rename_i h1
    unfold szOut
    rw [if_neg]
    have := sumT_take_succ ks i hi
    have := sumT_take_le ks (i + 1)
    rw [szL_sum]
    rw [szT_eq] at *
    unfold szAt at h1
    omega

theorem szOut_end (ks : List Tr) (left : Int) (h0 : 0 ≤ szAt ks left ks.length) : szOut ks left = szAt ks left ks.length := by
  unfold szAt at h0 ⊢
  unfold szOut
  rw [List.take_length] at *
  rw [szL_sum, if_pos (by omega)]
  omega

end Go.Proofs.Ytiipcgnkfhjpeaa
