/-
  The chapter's codes: works.
-/
import Derived.Test.YtfcjnpbnejaolaaLenI
namespace Go.Proofs.Ytfcjnpbnejaolaa
set_option linter.unusedVariables false
set_option linter.unusedSimpArgs false
open Go.ChangeShapes Go.WideShapes Go.ChangeAt Go.RowKit

theorem srcn_new (w : World) (l : List Nat) (C : Array Value) (hC : C = (cn l).toArray) (c : Nat) : Src (w.alloc (.cells C 3)) (some ⟨w.heap.size, 0, none⟩) l.length c (cn l) := by
  subst hC
  refine ⟨cn_len l, .inr ⟨_, rfl, fun j u hj => ?_⟩⟩
  rw [add0]
  exact alloc_cell w _ _ _ (by simpa using hj)
theorem wk1 (w : World) : Calls Try.prog 14 #[.slice (some ⟨w.heap.size, 0, none⟩) 4 4] (w.alloc (.cells #[.int .i64 2, .int .i64 1, .int .i64 3, .int .i64 3] 3)) fun e w' => ∃ R, e = .returned (.tuple #[.slice (some ⟨R, 0, none⟩) 4 4, .int .i64 0]) ∧ Vec w' R [2, 0, 6, 7] ∧ Below w.heap.size w w' := by
  have h := codes_ok (w.alloc (.cells #[.int .i64 2, .int .i64 1, .int .i64 3, .int .i64 3] 3)) (some ⟨w.heap.size, 0, none⟩) 4 4 [2, 1, 3, 3] (srcn_new w [2, 1, 3, 3] _ rfl 4) (by decide) (by decide) w1
  rw [w2] at h
  refine h.mono ?_
  rintro e w' ⟨R, rfl, h1, h2, h3⟩
  exact ⟨R, rfl, h1, (alloc_below w _).trans (h3.mono (by simp))⟩
theorem wk2 (w : World) : Calls Try.prog 15 #[.slice (some ⟨w.heap.size, 0, none⟩) 4 4] (w.alloc (.cells #[.int .i64 2, .int .i64 1, .int .i64 3, .int .i64 3] 3)) fun e w' => e = .returned (.tuple #[.int .i64 32768, .int .i64 0]) ∧ Below w.heap.size w w' := by
  have h := weigh_any (w.alloc (.cells #[.int .i64 2, .int .i64 1, .int .i64 3, .int .i64 3] 3)) (some ⟨w.heap.size, 0, none⟩) 4 4 (nm [2, 1, 3, 3]) (srcn_new w [2, 1, 3, 3] _ rfl 4) (by decide)
  rw [w3.1, w3.2] at h
  refine h.mono ?_
  rintro e w' ⟨rfl, h3⟩
  exact ⟨rfl, (alloc_below w _).trans (h3.mono (by simp))⟩
theorem wk3 (w : World) : Calls Try.prog 7 #[.slice (some ⟨w.heap.size, 0, none⟩) 5 5, .int .i64 15] (w.alloc (.cells #[.int .i64 5, .int .i64 0, .int .i64 2, .int .i64 1, .int .i64 1] 3)) fun e w' => ∃ R, e = .returned (.tuple #[.slice (some ⟨R, 0, none⟩) 5 5, .int .i64 0]) ∧ Vec w' R [1, 0, 2, 3, 3] ∧ Below w.heap.size w w' := by
  have h := lengths_yes (w.alloc (.cells #[.int .i64 5, .int .i64 0, .int .i64 2, .int .i64 1, .int .i64 1] 3)) (some ⟨w.heap.size, 0, none⟩) 5 5 (nm [5, 0, 2, 1, 1]) 15 (srcn_new w [5, 0, 2, 1, 1] _ rfl 5) w4
  rw [w5] at h
  refine h.mono ?_
  rintro e w' ⟨R, rfl, h1, h2, h3⟩
  exact ⟨R, rfl, h1, (alloc_below w _).trans (h3.mono (by simp))⟩
theorem wk4 (w : World) : Calls Try.prog 16 #[.slice (some ⟨w.heap.size, 0, none⟩) 4 4, .int .i64 7, .int .i64 3] (w.alloc (.cells #[.int .i64 2, .int .i64 1, .int .i64 3, .int .i64 3] 3)) fun e w' => e = .returned (.tuple #[.int .i64 3, .bool true]) ∧ Below w.heap.size w w' := by
  have h := find_ok (w.alloc (.cells #[.int .i64 2, .int .i64 1, .int .i64 3, .int .i64 3] 3)) (some ⟨w.heap.size, 0, none⟩) 4 4 [2, 1, 3, 3] 7 3 (srcn_new w [2, 1, 3, 3] _ rfl 4) (by decide) (by decide) w1
  rw [w7.1, w7.2] at h
  refine h.mono ?_
  rintro e w' ⟨rfl, h3⟩
  exact ⟨rfl, (alloc_below w _).trans (h3.mono (by simp))⟩
theorem wk5 (w : World) (R : Nat) (hv : Vec w R [2, 0, 6, 7]) : Calls Try.prog 9 #[.slice (some ⟨R, 0, none⟩) 4 4, .slice (some ⟨w.heap.size, 0, none⟩) 4 4] (w.alloc (.cells #[.int .i64 2, .int .i64 0, .int .i64 6, .int .i64 7] 3)) fun e w' => e = .returned (.bool true) ∧ Below w.heap.size w w' := by
  have h := ints_any (w.alloc (.cells #[.int .i64 2, .int .i64 0, .int .i64 6, .int .i64 7] 3)) (some ⟨R, 0, none⟩) (some ⟨w.heap.size, 0, none⟩) 4 4 4 4 (nm [2, 0, 6, 7]) (nm [2, 0, 6, 7]) ((hv.src 4).later (alloc_below w _)) (srcn_new w [2, 0, 6, 7] _ rfl 4) (by decide)
  rw [show decide (nm [2, 0, 6, 7] = nm [2, 0, 6, 7]) = true from by simp] at h
  refine h.mono ?_
  rintro e w' ⟨rfl, h3⟩
  exact ⟨rfl, (alloc_below w _).trans (h3.mono (by simp))⟩
theorem nm_i64 (l : List Nat) (h : ∀ x ∈ l, x ≤ 9223372036854775807) (j : Nat) : (nm l).getD j 0 ≤ 9223372036854775807 := by
  rw [nm_getD]
  rcases Nat.lt_or_ge j l.length with h1 | h1
  · have := h _ (List.getElem_mem h1)
    rw [getD_eq h1]
    omega
  · simp [List.getD, List.getElem?_eq_none h1]
theorem wk6 (w : World) (R : Nat) (hv : Vec w R [1, 0, 2, 3, 3]) : Calls Try.prog 17 #[.slice (some ⟨w.heap.size, 0, none⟩) 5 5, .slice (some ⟨R, 0, none⟩) 5 5] (w.alloc (.cells #[.int .i64 5, .int .i64 0, .int .i64 2, .int .i64 1, .int .i64 1] 3)) fun e w' => e = .returned (.int .i64 15) ∧ Below w.heap.size w w' := by
  have h := cost_any (w.alloc (.cells #[.int .i64 5, .int .i64 0, .int .i64 2, .int .i64 1, .int .i64 1] 3)) (some ⟨w.heap.size, 0, none⟩) (some ⟨R, 0, none⟩) 5 5 5 5 (nm [5, 0, 2, 1, 1]) (nm [1, 0, 2, 3, 3]) (srcn_new w [5, 0, 2, 1, 1] _ rfl 5) ((hv.src 5).later (alloc_below w _)) (by decide) (by decide) (nm_i64 _ (by decide)) (nm_i64 _ (by decide))
  rw [w6] at h
  refine h.mono ?_
  rintro e w' ⟨rfl, h3⟩
  exact ⟨rfl, (alloc_below w _).trans (h3.mono (by simp))⟩

set_option maxRecDepth 100000 in
set_option maxHeartbeats 2000000 in
theorem works_any (w : World) : Calls Try.prog 5 #[] w fun e w' => e = .returned (.bool true) ∧ Below w.heap.size w w' := by
  go_enter Try.func5, Try.ntmps5
  go_wp2_with fail
  refine (wk1 w).mono ?_
  rintro e W1 ⟨R1, rfl, hv1, hb1⟩
  go_wp2_with fail
  refine (wk2 W1).mono ?_
  rintro e W2 ⟨rfl, hb2⟩
  go_wp2_with fail
  refine (wk3 W2).mono ?_
  rintro e W3 ⟨R3, rfl, hv3, hb3⟩
  go_wp2_with fail
  refine (wk4 W3).mono ?_
  rintro e W4 ⟨rfl, hb4⟩
  have hv14 : Vec W4 R1 [2, 0, 6, 7] := ((hv1.later hb2 hv1.lt).later hb3 (Nat.lt_of_lt_of_le hv1.lt hb2.size)).later hb4 (Nat.lt_of_lt_of_le hv1.lt (Nat.le_trans hb2.size hb3.size))
  go_wp2_with fail
  refine (wk5 W4 R1 hv14).mono ?_
  rintro e W5 ⟨rfl, hb5⟩
  go_wp2_with fail
  refine (num_any 0 W5).mono ?_
  rintro e wx ⟨rfl, hwx⟩
  obtain rfl := hwx.symm
  go_wp2_with fail
  refine (num_any 0 W5).mono ?_
  rintro e wx ⟨rfl, hwx⟩
  obtain rfl := hwx.symm
  go_wp2_with fail
  refine (num_any 0 W5).mono ?_
  rintro e wx ⟨rfl, hwx⟩
  obtain rfl := hwx.symm
  have hv35 : Vec W5 R3 [1, 0, 2, 3, 3] := (hv3.later hb4 hv3.lt).later hb5 (Nat.lt_of_lt_of_le hv3.lt hb4.size)
  go_wp2_with fail
  refine (wk6 W5 R3 hv35).mono ?_
  rintro e W6 ⟨rfl, hb6⟩
  go_wp2_with fail
  go_ret
  have b2 := hb1.trans (hb2.mono hb1.size)
  have b3 := b2.trans (hb3.mono b2.size)
  have b4 := b3.trans (hb4.mono b3.size)
  have b5 := b4.trans (hb5.mono b4.size)
  exact ⟨rfl, b5.trans (hb6.mono b5.size)⟩
end Go.Proofs.Ytfcjnpbnejaolaa
