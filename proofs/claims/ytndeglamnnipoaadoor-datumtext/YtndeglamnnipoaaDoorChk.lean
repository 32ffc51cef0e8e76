/-
  Check, the reference's Check and Fine, and both Of.
-/
import Derived.Test.YtndeglamnnipoaaDoorOfS
namespace Go.Proofs.YtndeglamnnipoaaDoor
set_option linter.unusedVariables false
set_option linter.unusedSimpArgs false
open Go.ChangeShapes Go.WideShapes Go.ChangeAt Go.RowKit Go.Deep


theorem chk_7 (z : Int) : chkB 7 z = (decide (1 ≤ z) && decide (z ≤ 1048576)) := by simp [chkB, kn, inB_eq, bo]
theorem chk_n (k z : Int) (h : k = 0 ∨ k = 1 ∨ k = 2 ∨ k = 4 ∨ k = 5 ∨ k = 6) : chkB k z = decide (z = 0) := by
  have : (decide (0 ≤ z) && decide (z ≤ 0)) = decide (z = 0) := by rw [Bool.eq_iff_iff]; simp; omega
  rcases h with rfl | rfl | rfl | rfl | rfl | rfl <;> simpa [chkB, kn, inB_eq, bo] using this
theorem chk_no (k z : Int) (h : kn k = false) : chkB k z = false := by simp [chkB, h]
/-- Fine, kind by kind -/
theorem fine_no (k n : Int) (l : Nat) (h : kn k = false) : fineB k n l = false := by simp [fineB, h]
theorem fine_text (k n : Int) (l : Nat) (h : k = 0 ∨ k = 1 ∨ k = 2 ∨ k = 4 ∨ k = 5) (hl : l ≠ 0) : fineB k n l = false := by
  rcases h with rfl | rfl | rfl | rfl | rfl <;> simp [fineB, kn, inB_eq, bo] <;> intros <;> omega
theorem fine_6 (n : Int) (l : Nat) : fineB 6 n l = (decide (n = 0) && decide ((l : Int) ≤ 1048576)) := by
  have : (decide (0 ≤ n) && decide (n ≤ 0)) = decide (n = 0) := by rw [Bool.eq_iff_iff]; simp; omega
  simp [fineB, kn, inB_eq, bo, this]
theorem fine_7 (n : Int) (l : Nat) : fineB 7 n l = (decide (n = 0) && decide ((l : Int) ≤ 1048576) && decide (0 < (l : Int))) := by
  have : (decide (0 ≤ n) && decide (n ≤ 0)) = decide (n = 0) := by rw [Bool.eq_iff_iff]; simp; omega
  simp only [fineB, kn, inB_eq, bo]
  rw [Bool.eq_iff_iff]
  simp
  omega
theorem fine_0 (n : Int) : fineB 0 n 0 = (decide (n = 0) || decide (n = 1)) := by
  simp only [fineB, kn, inB_eq, bo]; rw [Bool.eq_iff_iff]; simp; omega
theorem fine_1 (n : Int) : fineB 1 n 0 = (decide (-2147483648 ≤ n) && decide (n ≤ 2147483647)) := by
  simp [fineB, kn, inB_eq, bo]
theorem fine_4 (n : Int) : fineB 4 n 0 = (decide (0 ≤ n) && decide (n ≤ 4294967295)) := by
  simp [fineB, kn, inB_eq, bo]
theorem fine_25 (k n : Int) (h : k = 2 ∨ k = 5) (hw : (Lit.int .i64 n).wf = true) : fineB k n 0 = true := by
  have hn : -9223372036854775808 ≤ n ∧ n ≤ 9223372036854775807 := by simpa [Lit.wf, IntKind.min, IntKind.max, IntKind.signed, IntKind.bits] using hw
  rcases h with rfl | rfl <;> simp [fineB, kn, inB_eq, bo] <;> omega
theorem empty_no {s : ByteArray} (h : s.size ≠ 0) : s.toList.isEmpty = false := by
  rw [ByteArray.toList_eq]
  cases hl : s.data.toList with
  | nil => exact absurd (by show s.data.size = 0; rw [← Array.length_toList, hl]; rfl) h
  | cons _ _ => rfl
theorem size0 {s : ByteArray} (h : s.size = 0) : s = { data := #[] } := by
  obtain ⟨d⟩ := s
  have : d.size = 0 := h
  have : d = #[] := Array.eq_empty_of_size_eq_zero this
  rw [this]
set_option maxRecDepth 100000 in
set_option maxHeartbeats 4000000 in
theorem rfine_any (k n : Int) (s : ByteArray) (hw : (Lit.int .i64 n).wf = true) (w : World) : Calls Tryd.prog 11 #[.agg #[.int .i64 k, .int .i64 n, .string s]] w fun e w' => e = .returned (.bool (fineB k n s.size)) ∧ Below w.heap.size w w' := by
  by_cases h6 : k = 6
  · subst h6
    clear hw
    by_cases a : n = 0
    · by_cases b : (s.size : Int) ≤ 1048576
      · have hf : fineB 6 n s.size = true := by rw [fine_6, decide_eq_true a, decide_eq_true b]; first | rfl | simp
        rw [hf]
        clear hf
        go_enter Tryd.func11, Tryd.ntmps11
        go_wp2_with fail
        go_ret
        exact ⟨rfl, alloc_below _ _⟩
      · have hf : fineB 6 n s.size = false := by rw [fine_6, decide_eq_true a, decide_eq_false b]; first | rfl | simp
        rw [hf]
        clear hf
        go_enter Tryd.func11, Tryd.ntmps11
        go_wp2_with fail
        go_ret
        exact ⟨rfl, alloc_below _ _⟩
    · have a' : (n == 0) = false := by simpa using a
      have hf : fineB 6 n s.size = false := by rw [fine_6, decide_eq_false a]; first | rfl | simp
      rw [hf]
      clear hf
      go_enter Tryd.func11, Tryd.ntmps11
      go_wp2_with fail
      go_ret
      exact ⟨rfl, alloc_below _ _⟩
  by_cases h7 : k = 7
  · subst h7
    clear hw h6
    by_cases a : n = 0
    · by_cases b : (s.size : Int) ≤ 1048576
      · by_cases c : 0 < (s.size : Int)
        · have c' : decide (0 < s.size) = true := decide_eq_true (by omega)
          have hf : fineB 7 n s.size = true := by rw [fine_7, decide_eq_true a, decide_eq_true b, decide_eq_true c]; first | rfl | simp
          rw [hf]
          clear hf
          go_enter Tryd.func11, Tryd.ntmps11
          go_wp2_with fail
          go_ret
          exact ⟨rfl, alloc_below _ _⟩
        · have c' : decide (0 < s.size) = false := decide_eq_false (by omega)
          have hf : fineB 7 n s.size = false := by rw [fine_7, decide_eq_true a, decide_eq_true b, decide_eq_false c]; first | rfl | simp
          rw [hf]
          clear hf
          go_enter Tryd.func11, Tryd.ntmps11
          go_wp2_with fail
          go_ret
          exact ⟨rfl, alloc_below _ _⟩
      · have hf : fineB 7 n s.size = false := by rw [fine_7, decide_eq_true a, decide_eq_false b]; first | rfl | simp
        rw [hf]
        clear hf
        go_enter Tryd.func11, Tryd.ntmps11
        go_wp2_with fail
        go_ret
        exact ⟨rfl, alloc_below _ _⟩
    · have a' : (n == 0) = false := by simpa using a
      have hf : fineB 7 n s.size = false := by rw [fine_7, decide_eq_false a]; first | rfl | simp
      rw [hf]
      clear hf
      go_enter Tryd.func11, Tryd.ntmps11
      go_wp2_with fail
      go_ret
      exact ⟨rfl, alloc_below _ _⟩
  by_cases hs : s.size = 0
  · have := size0 hs
    subst this
    clear hs
    rw [show ({ data := #[] } : ByteArray).size = 0 from rfl]
    by_cases h0 : k = 0
    · subst h0
      clear hw h6 h7
      by_cases a : n = 0
      · have hf : fineB 0 n 0 = true := by rw [fine_0, decide_eq_true a]; first | rfl | simp
        rw [hf]
        clear hf
        go_enter Tryd.func11, Tryd.ntmps11
        go_wp2_with fail
        go_ret
        exact ⟨rfl, alloc_below _ _⟩
      · have a' : (n == 0) = false := by simpa using a
        by_cases b : n = 1
        · have hf : fineB 0 n 0 = true := by rw [fine_0, decide_eq_false a, decide_eq_true b]; first | rfl | simp
          rw [hf]
          clear hf
          go_enter Tryd.func11, Tryd.ntmps11
          go_wp2_with fail
          go_ret
          exact ⟨rfl, alloc_below _ _⟩
        · have b' : (n == 1) = false := by simpa using b
          have hf : fineB 0 n 0 = false := by rw [fine_0, decide_eq_false a, decide_eq_false b]; first | rfl | simp
          rw [hf]
          clear hf
          go_enter Tryd.func11, Tryd.ntmps11
          go_wp2_with fail
          go_ret
          exact ⟨rfl, alloc_below _ _⟩
    by_cases h1 : k = 1
    · subst h1
      clear hw h6 h7 h0
      by_cases a : -2147483648 ≤ n
      · by_cases b : n ≤ 2147483647
        · have hf : fineB 1 n 0 = true := by rw [fine_1, decide_eq_true a, decide_eq_true b]; first | rfl | simp
          rw [hf]
          clear hf
          go_enter Tryd.func11, Tryd.ntmps11
          go_wp2_with fail
          go_ret
          exact ⟨rfl, alloc_below _ _⟩
        · have hf : fineB 1 n 0 = false := by rw [fine_1, decide_eq_true a, decide_eq_false b]; first | rfl | simp
          rw [hf]
          clear hf
          go_enter Tryd.func11, Tryd.ntmps11
          go_wp2_with fail
          go_ret
          exact ⟨rfl, alloc_below _ _⟩
      · have hf : fineB 1 n 0 = false := by rw [fine_1, decide_eq_false a]; first | rfl | simp
        rw [hf]
        clear hf
        go_enter Tryd.func11, Tryd.ntmps11
        go_wp2_with fail
        go_ret
        exact ⟨rfl, alloc_below _ _⟩
    by_cases h4 : k = 4
    · subst h4
      clear hw h6 h7 h0 h1
      by_cases a : 0 ≤ n
      · by_cases b : n ≤ 4294967295
        · have hf : fineB 4 n 0 = true := by rw [fine_4, decide_eq_true a, decide_eq_true b]; first | rfl | simp
          rw [hf]
          clear hf
          go_enter Tryd.func11, Tryd.ntmps11
          go_wp2_with fail
          go_ret
          exact ⟨rfl, alloc_below _ _⟩
        · have hf : fineB 4 n 0 = false := by rw [fine_4, decide_eq_true a, decide_eq_false b]; first | rfl | simp
          rw [hf]
          clear hf
          go_enter Tryd.func11, Tryd.ntmps11
          go_wp2_with fail
          go_ret
          exact ⟨rfl, alloc_below _ _⟩
      · have hf : fineB 4 n 0 = false := by rw [fine_4, decide_eq_false a]; first | rfl | simp
        rw [hf]
        clear hf
        go_enter Tryd.func11, Tryd.ntmps11
        go_wp2_with fail
        go_ret
        exact ⟨rfl, alloc_below _ _⟩
    by_cases h2 : k = 2 ∨ k = 5
    · rw [fine_25 k n h2 hw]
      clear hw h6 h7 h0 h1 h4
      rcases h2 with rfl | rfl
      all_goals
        go_enter Tryd.func11, Tryd.ntmps11
        go_wp2_with fail
        go_ret
        exact ⟨rfl, alloc_below _ _⟩
    · have h2' : ¬ k = 2 := by omega
      have h5' : ¬ k = 5 := by omega
      rw [fine_no k n _ (by simp [kn, h0, h1, h2', h4, h5', h6, h7])]
      have g0 : (k == 0) = false := by simpa using h0
      have g1 : (k == 1) = false := by simpa using h1
      have g2 : (k == 2) = false := by simpa using h2'
      have g4 : (k == 4) = false := by simpa using h4
      have g5 : (k == 5) = false := by simpa using h5'
      have g6 : (k == 6) = false := by simpa using h6
      have g7 : (k == 7) = false := by simpa using h7
      clear hw h2
      go_enter Tryd.func11, Tryd.ntmps11
      go_wp2_with fail
      go_ret
      exact ⟨rfl, alloc_below _ _⟩
  · have g6 : (k == 6) = false := by simpa using h6
    have g7 : (k == 7) = false := by simpa using h7
    have hne' : s.toList.isEmpty = false := empty_no hs
    have hf : fineB k n s.size = false := by
      cases hk : kn k
      · exact fine_no k n _ hk
      · exact fine_text k n _ (by have := kn_cases hk; omega) hs
    rw [hf]
    clear hw hs hf
    go_enter Tryd.func11, Tryd.ntmps11
    go_wp2_with fail
    go_ret
    exact ⟨rfl, alloc_below _ _⟩
end Go.Proofs.YtndeglamnnipoaaDoor
