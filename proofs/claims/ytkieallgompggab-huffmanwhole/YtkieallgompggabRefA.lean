/-
  The reference's Weigh and Codes.
-/
import Derived.Test.YtkieallgompggabWorks
namespace Go.Proofs.Ytkieallgompggab
set_option linter.unusedVariables false
set_option linter.unusedSimpArgs false
open Go.ChangeShapes Go.WideShapes Go.ChangeAt Go.RowKit

theorem sumW_le (m : List Nat) : sumW m ≤ m.length * 32768 := by
  refine snoc_rec (P := fun m => sumW m ≤ m.length * 32768) (by simp [sumW]) ?_ m
  intro m x ih
  rw [sumW_snoc, List.length_append, List.length_singleton]
  have : one x ≤ 32768 := by
    unfold one
    split
    · omega
    · exact (show 2 ^ (15 - x) ≤ 2 ^ 15 from Nat.pow_le_pow_right (by omega) (by omega))
  omega
end Go.Proofs.Ytkieallgompggab
