/-
  The plain mathematics of layer 9: the bounds of each kind, as numbers.
-/
import Derived.Test.YtdglobonbhkheaaBase
namespace Go.Proofs.Ytdglobonbhkheaa
set_option linter.unusedVariables false

/-- the kinds that there are -/
def kn (k : Int) : Bool := k == 0 || k == 1 || k == 2 || k == 4 || k == 5 || k == 6 || k == 7
/-- the bounds of a kind: of its Size, its Int and the bytes of its Text, each the least and the most -/
def bo (k : Int) : Nat → Int
  | 0 => if k = 7 then 1 else 0
  | 1 => if k = 7 then 1048576 else 0
  | 2 => if k = 1 then -2147483648 else if k = 2 ∨ k = 5 then -9223372036854775808 else 0
  | 3 => if k = 0 then 1 else if k = 1 then 2147483647 else if k = 2 ∨ k = 5 then 9223372036854775807 else if k = 4 then 4294967295 else 0
  | 4 => if k = 7 then 1 else 0
  | 5 => if k = 6 ∨ k = 7 then 1048576 else 0
  | _ => 0
/-- is a number within two? -/
def inB (a b n : Int) : Bool := decide (a ≤ n ∧ n ≤ b)
/-- a datum is of a type, whatever its Size -/
def fineB (k n : Int) (l : Nat) : Bool := kn k && (inB (bo k 2) (bo k 3) n && inB (bo k 4) (bo k 5) (l : Int))
/-- a type may be -/
def chkB (k s : Int) : Bool := kn k && inB (bo k 0) (bo k 1) s
/-- a datum is of a type -/
def ofB (k n : Int) (l : Nat) (k' s : Int) : Bool := chkB k' s && (k == k' && (fineB k n l && (k' != 7 || (l : Int) == s)))
/-- what Check answers -/
def chkN (k s : Int) : Int := if chkB k s = true then 0 else 2
theorem inB_eq (a b n : Int) : inB a b n = (decide (a ≤ n) && decide (n ≤ b)) := by
  unfold inB
  by_cases h1 : a ≤ n <;> by_cases h2 : n ≤ b <;> simp [h1, h2]
theorem kn_cases {k : Int} (h : kn k = true) : k = 0 ∨ k = 1 ∨ k = 2 ∨ k = 4 ∨ k = 5 ∨ k = 6 ∨ k = 7 := by
  simpa [kn, or_assoc] using h
theorem kn_not {k : Int} (h : kn k = false) : k ≠ 0 ∧ k ≠ 1 ∧ k ≠ 2 ∧ k ≠ 4 ∧ k ≠ 5 ∧ k ≠ 6 ∧ k ≠ 7 := by
  simpa [kn, and_assoc] using h
end Go.Proofs.Ytdglobonbhkheaa
