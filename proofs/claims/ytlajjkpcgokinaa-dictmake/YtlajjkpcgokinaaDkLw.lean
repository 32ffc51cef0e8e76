/-
  dict: what the law of Make wants besides.
-/
import Derived.Test.YtlajjkpcgokinaaDkMk
namespace Go.Proofs.Ytlajjkpcgokinaa
set_option linter.unusedVariables false
open Go.ChangeShapes Go.WideShapes Go.ChangeAt Go.RowKit Go.Sort Go.Deep

theorem sameD_comm (d e : Dat) : sameD d e = sameD e d := by
  rw [Bool.eq_iff_iff, sameD_iff, sameD_iff]
  exact eq_comm
theorem any_take {W : List Dat} {n : Nat} {x d : Dat} (h : W[n]? = some x) : (W.take (n + 1)).any (sameD d) = ((W.take n).any (sameD d) || sameD x d) := by
  obtain ⟨h1, h2⟩ := List.getElem?_eq_some_iff.1 h
  rw [List.take_succ_eq_append_getElem h1, List.any_append, h2, sameD_comm x d]
  simp
theorem nums_at {xs : List Dat} {i : Nat} {d : Dat} (h : xs[i]? = some d) : (numsL xs)[i]? = some (ix (dictL xs) d) := by
  simp [numsL, h]
theorem nums_in (xs : List Dat) : allIn ((dictL xs).length : Int) ((numsL xs).map fun n : Nat => (n : Int)) = true := by
  unfold allIn
  rw [List.all_eq_true]
  intro z hz
  obtain ⟨n, hn, rfl⟩ := List.mem_map.1 hz
  obtain ⟨d, hd, rfl⟩ := List.mem_map.1 hn
  obtain ⟨i, hi, hid⟩ := List.getElem_of_mem hd
  have := ix_lt (dictL_mem (xs := xs) (i := i) (d := d) (by rw [List.getElem?_eq_getElem hi, hid]))
  simp only [decide_eq_true_eq]
  omega
/-- the values by their numbers are the values -/
theorem pick_nums (xs : List Dat) : pkD (dictL xs) ((numsL xs).map fun n : Nat => (n : Int)) = xs := by
  unfold pkD numsL
  rw [List.map_map, List.map_map]
  conv => rhs; rw [← List.map_id xs]
  apply List.map_congr_left
  intro d hd
  obtain ⟨i, hi, hid⟩ := List.getElem_of_mem hd
  have := ix_at (dictL_mem (xs := xs) (i := i) (d := d) (by rw [List.getElem?_eq_getElem hi, hid]))
  simp only [Function.comp, Int.toNat_natCast, id]
  exact getD_of this
end Go.Proofs.Ytlajjkpcgokinaa
