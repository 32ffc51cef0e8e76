/-
  Of, and the reference's.
-/
import Derived.Test.YtfocmlajeflenaaChk
namespace Go.Proofs.Ytfocmlajeflenaa
set_option linter.unusedVariables false
set_option linter.unusedSimpArgs false
open Go.ChangeShapes Go.WideShapes Go.ChangeAt Go.RowKit Go.Deep
theorem of_no1 (k n : Int) (l : Nat) (k' z : Int) (h : chkB k' z = false) : ofB k n l k' z = false := by simp [ofB, h]
theorem of_no2 (k n : Int) (l : Nat) (k' z : Int) (h : ¬ k = k') : ofB k n l k' z = false := by simp [ofB, h]
theorem of_no3 (k n : Int) (l : Nat) (k' z : Int) (h : fineB k n l = false) : ofB k n l k' z = false := by simp [ofB, h]
theorem of_yes (k n : Int) (l : Nat) (z : Int) (h1 : chkB k z = true) (h3 : fineB k n l = true) : ofB k n l k z = (k != 7 || (l : Int) == z) := by simp [ofB, h1, h3]
set_option maxRecDepth 100000 in
set_option maxHeartbeats 4000000 in
theorem of_any (k n : Int) (s : ByteArray) (k' z : Int) (w : World) : Calls Try.prog 19 #[.agg #[.int .i64 k, .int .i64 n, .string s], .agg #[.int .i64 k', .int .i64 z]] w fun e w' => e = .returned (.bool (ofB k n s.size k' z)) ∧ Below w.heap.size w w' := by
  have hx0 : ((w.alloc (.cells #[.int .i64 k, .int .i64 n, .string s] 48)).alloc (.cells #[.int .i64 k', .int .i64 z] 24)).heap[w.heap.size]? = some (.cells #[.int .i64 k, .int .i64 n, .string s] 48 (0, 0)) := below_at (alloc_below _ _) (heap_new _ _)
  have hy0 : ((w.alloc (.cells #[.int .i64 k, .int .i64 n, .string s] 48)).alloc (.cells #[.int .i64 k', .int .i64 z] 24)).heap[w.heap.size + 1]? = some (.cells #[.int .i64 k', .int .i64 z] 24 (0, 0)) := heap2_new _ _ _
  have hb0 : Below w.heap.size w ((w.alloc (.cells #[.int .i64 k, .int .i64 n, .string s] 48)).alloc (.cells #[.int .i64 k', .int .i64 z] 24)) := (alloc_below _ _).alloc (by simp) _
  have CK := fun W => check_any k' z W
  have CF := fun W => ofSome_any k n s W
  cases hc : chkB k' z
  · have hN : chkN k' z = 2 := by simp [chkN, hc]
    rw [hN] at CK
    rw [show ofB k n s.size k' z = false from by exact of_no1 _ _ _ _ _ hc]
    go_enter Try.func19, Try.ntmps19
    go_wp2_with fail
    generalize (w.alloc (.cells #[.int .i64 k, .int .i64 n, .string s] 48)).alloc (.cells #[.int .i64 k', .int .i64 z] 24) = W0 at *
    refine (CK W0).mono ?_
    rintro e W1 ⟨rfl, hb1⟩
    have hx1 := below_at hb1 hx0
    have hy1 := below_at hb1 hy0
    obtain ⟨⟨c0, c1, c2⟩, _⟩ := blk3 hx1
    obtain ⟨⟨d0, d1⟩, _⟩ := blk2 hy1
    have b1 := hb0.trans (hb1.mono hb0.size)
    clear hx0 hy0
    go_wp2_with fail
    go_ret
    exact ⟨rfl, b1⟩
  · have hN : chkN k' z = 0 := by simp [chkN, hc]
    rw [hN] at CK
    by_cases he : k = k'
    · subst he
      cases hf : fineB k n s.size
      · rw [hf] at CF
        have hA := of_no3 k n s.size k z hf
        clear hf hc hN
        rw [show ofB k n s.size k z = false from by exact hA]
        go_enter Try.func19, Try.ntmps19
        go_wp2_with fail
        generalize (w.alloc (.cells #[.int .i64 k, .int .i64 n, .string s] 48)).alloc (.cells #[.int .i64 k, .int .i64 z] 24) = W0 at *
        refine (CK W0).mono ?_
        rintro e W1 ⟨rfl, hb1⟩
        have hx1 := below_at hb1 hx0
        have hy1 := below_at hb1 hy0
        obtain ⟨⟨c0, c1, c2⟩, _⟩ := blk3 hx1
        obtain ⟨⟨d0, d1⟩, _⟩ := blk2 hy1
        have b1 := hb0.trans (hb1.mono hb0.size)
        clear hx0 hy0
        go_wp2_with fail
        refine (CF W1).mono ?_
        rintro e W2 ⟨rfl, hb2⟩
        have hx2 := below_at hb2 hx1
        have hy2 := below_at hb2 hy1
        obtain ⟨⟨c0, c1, c2⟩, _⟩ := blk3 hx2
        obtain ⟨⟨d0, d1⟩, _⟩ := blk2 hy2
        have b2 := b1.trans (hb2.mono b1.size)
        clear hx1 hy1
        go_wp2_with fail
        go_ret
        exact ⟨rfl, b2⟩
      · rw [hf] at CF
        have hA := of_yes k n s.size z hc hf
        clear hf hc hN
        by_cases h7 : k = 7
        · subst h7
          have hA3 : ofB 7 n s.size 7 z = ((s.size : Int) == z) := by rw [hA]; rfl
          clear hA
          rw [show ofB 7 n s.size 7 z = ((s.size : Int) == z) from by exact hA3]
          go_enter Try.func19, Try.ntmps19
          go_wp2_with fail
          generalize (w.alloc (.cells #[.int .i64 7, .int .i64 n, .string s] 48)).alloc (.cells #[.int .i64 7, .int .i64 z] 24) = W0 at *
          refine (CK W0).mono ?_
          rintro e W1 ⟨rfl, hb1⟩
          have hx1 := below_at hb1 hx0
          have hy1 := below_at hb1 hy0
          obtain ⟨⟨c0, c1, c2⟩, _⟩ := blk3 hx1
          obtain ⟨⟨d0, d1⟩, _⟩ := blk2 hy1
          have b1 := hb0.trans (hb1.mono hb0.size)
          clear hx0 hy0
          go_wp2_with fail
          refine (CF W1).mono ?_
          rintro e W2 ⟨rfl, hb2⟩
          have hx2 := below_at hb2 hx1
          have hy2 := below_at hb2 hy1
          obtain ⟨⟨c0, c1, c2⟩, _⟩ := blk3 hx2
          obtain ⟨⟨d0, d1⟩, _⟩ := blk2 hy2
          have b2 := b1.trans (hb2.mono b1.size)
          clear hx1 hy1
          go_wp2_with fail
          go_ret
          exact ⟨rfl, b2⟩
        · have h7' : (k == 7) = false := by simpa using h7
          have hA3 : ofB k n s.size k z = true := by rw [hA]; simp [bne, h7']
          clear hA
          rw [show ofB k n s.size k z = true from by exact hA3]
          go_enter Try.func19, Try.ntmps19
          go_wp2_with fail
          generalize (w.alloc (.cells #[.int .i64 k, .int .i64 n, .string s] 48)).alloc (.cells #[.int .i64 k, .int .i64 z] 24) = W0 at *
          refine (CK W0).mono ?_
          rintro e W1 ⟨rfl, hb1⟩
          have hx1 := below_at hb1 hx0
          have hy1 := below_at hb1 hy0
          obtain ⟨⟨c0, c1, c2⟩, _⟩ := blk3 hx1
          obtain ⟨⟨d0, d1⟩, _⟩ := blk2 hy1
          have b1 := hb0.trans (hb1.mono hb0.size)
          clear hx0 hy0
          go_wp2_with fail
          refine (CF W1).mono ?_
          rintro e W2 ⟨rfl, hb2⟩
          have hx2 := below_at hb2 hx1
          have hy2 := below_at hb2 hy1
          obtain ⟨⟨c0, c1, c2⟩, _⟩ := blk3 hx2
          obtain ⟨⟨d0, d1⟩, _⟩ := blk2 hy2
          have b2 := b1.trans (hb2.mono b1.size)
          clear hx1 hy1
          go_wp2_with fail
          go_ret
          exact ⟨rfl, b2⟩
    · have he' : (k == k') = false := by simpa using he
      have hA := of_no2 k n s.size k' z he
      clear hc hN
      rw [show ofB k n s.size k' z = false from by exact hA]
      go_enter Try.func19, Try.ntmps19
      go_wp2_with fail
      generalize (w.alloc (.cells #[.int .i64 k, .int .i64 n, .string s] 48)).alloc (.cells #[.int .i64 k', .int .i64 z] 24) = W0 at *
      refine (CK W0).mono ?_
      rintro e W1 ⟨rfl, hb1⟩
      have hx1 := below_at hb1 hx0
      have hy1 := below_at hb1 hy0
      obtain ⟨⟨c0, c1, c2⟩, _⟩ := blk3 hx1
      obtain ⟨⟨d0, d1⟩, _⟩ := blk2 hy1
      have b1 := hb0.trans (hb1.mono hb0.size)
      clear hx0 hy0
      go_wp2_with fail
      go_ret
      exact ⟨rfl, b1⟩
set_option maxRecDepth 100000 in
set_option maxHeartbeats 4000000 in
theorem rof_any (k n : Int) (s : ByteArray) (k' z : Int) (hw : (Lit.int .i64 n).wf = true) (w : World) : Calls Try.prog 34 #[.agg #[.int .i64 k, .int .i64 n, .string s], .agg #[.int .i64 k', .int .i64 z]] w fun e w' => e = .returned (.bool (ofB k n s.size k' z)) ∧ Below w.heap.size w w' := by
  have hx0 : ((w.alloc (.cells #[.int .i64 k, .int .i64 n, .string s] 48)).alloc (.cells #[.int .i64 k', .int .i64 z] 24)).heap[w.heap.size]? = some (.cells #[.int .i64 k, .int .i64 n, .string s] 48 (0, 0)) := below_at (alloc_below _ _) (heap_new _ _)
  have hy0 : ((w.alloc (.cells #[.int .i64 k, .int .i64 n, .string s] 48)).alloc (.cells #[.int .i64 k', .int .i64 z] 24)).heap[w.heap.size + 1]? = some (.cells #[.int .i64 k', .int .i64 z] 24 (0, 0)) := heap2_new _ _ _
  have hb0 : Below w.heap.size w ((w.alloc (.cells #[.int .i64 k, .int .i64 n, .string s] 48)).alloc (.cells #[.int .i64 k', .int .i64 z] 24)) := (alloc_below _ _).alloc (by simp) _
  have CK := fun W => rcheck_any k' z W
  have CF := fun W => rfine_any k n s hw W
  clear hw
  cases hc : chkB k' z
  · rw [hc] at CK
    rw [show ofB k n s.size k' z = false from by exact of_no1 _ _ _ _ _ hc]
    go_enter Try.func34, Try.ntmps34
    go_wp2_with fail
    generalize (w.alloc (.cells #[.int .i64 k, .int .i64 n, .string s] 48)).alloc (.cells #[.int .i64 k', .int .i64 z] 24) = W0 at *
    refine (CK W0).mono ?_
    rintro e W1 ⟨rfl, hb1⟩
    have hx1 := below_at hb1 hx0
    have hy1 := below_at hb1 hy0
    obtain ⟨⟨c0, c1, c2⟩, _⟩ := blk3 hx1
    obtain ⟨⟨d0, d1⟩, _⟩ := blk2 hy1
    have b1 := hb0.trans (hb1.mono hb0.size)
    clear hx0 hy0
    go_wp2_with fail
    go_ret
    exact ⟨rfl, b1⟩
  · rw [hc] at CK
    cases hf : fineB k n s.size
    · rw [hf] at CF
      have hA := of_no3 k n s.size k' z hf
      clear hf hc
      rw [show ofB k n s.size k' z = false from by exact hA]
      go_enter Try.func34, Try.ntmps34
      go_wp2_with fail
      generalize (w.alloc (.cells #[.int .i64 k, .int .i64 n, .string s] 48)).alloc (.cells #[.int .i64 k', .int .i64 z] 24) = W0 at *
      refine (CK W0).mono ?_
      rintro e W1 ⟨rfl, hb1⟩
      have hx1 := below_at hb1 hx0
      have hy1 := below_at hb1 hy0
      obtain ⟨⟨c0, c1, c2⟩, _⟩ := blk3 hx1
      obtain ⟨⟨d0, d1⟩, _⟩ := blk2 hy1
      have b1 := hb0.trans (hb1.mono hb0.size)
      clear hx0 hy0
      go_wp2_with fail
      refine (CF W1).mono ?_
      rintro e W2 ⟨rfl, hb2⟩
      have hx2 := below_at hb2 hx1
      have hy2 := below_at hb2 hy1
      obtain ⟨⟨c0, c1, c2⟩, _⟩ := blk3 hx2
      obtain ⟨⟨d0, d1⟩, _⟩ := blk2 hy2
      have b2 := b1.trans (hb2.mono b1.size)
      clear hx1 hy1
      go_wp2_with fail
      go_ret
      exact ⟨rfl, b2⟩
    · rw [hf] at CF
      by_cases he : k = k'
      · subst he
        have hA := of_yes k n s.size z hc hf
        clear hf hc
        by_cases h7 : k = 7
        · subst h7
          have hA3 : ofB 7 n s.size 7 z = ((s.size : Int) == z) := by rw [hA]; rfl
          clear hA
          rw [show ofB 7 n s.size 7 z = ((s.size : Int) == z) from by exact hA3]
          go_enter Try.func34, Try.ntmps34
          go_wp2_with fail
          generalize (w.alloc (.cells #[.int .i64 7, .int .i64 n, .string s] 48)).alloc (.cells #[.int .i64 7, .int .i64 z] 24) = W0 at *
          refine (CK W0).mono ?_
          rintro e W1 ⟨rfl, hb1⟩
          have hx1 := below_at hb1 hx0
          have hy1 := below_at hb1 hy0
          obtain ⟨⟨c0, c1, c2⟩, _⟩ := blk3 hx1
          obtain ⟨⟨d0, d1⟩, _⟩ := blk2 hy1
          have b1 := hb0.trans (hb1.mono hb0.size)
          clear hx0 hy0
          go_wp2_with fail
          refine (CF W1).mono ?_
          rintro e W2 ⟨rfl, hb2⟩
          have hx2 := below_at hb2 hx1
          have hy2 := below_at hb2 hy1
          obtain ⟨⟨c0, c1, c2⟩, _⟩ := blk3 hx2
          obtain ⟨⟨d0, d1⟩, _⟩ := blk2 hy2
          have b2 := b1.trans (hb2.mono b1.size)
          clear hx1 hy1
          go_wp2_with fail
          go_ret
          exact ⟨rfl, b2⟩
        · have h7' : (k == 7) = false := by simpa using h7
          have hA3 : ofB k n s.size k z = true := by rw [hA]; simp [bne, h7']
          clear hA
          rw [show ofB k n s.size k z = true from by exact hA3]
          go_enter Try.func34, Try.ntmps34
          go_wp2_with fail
          generalize (w.alloc (.cells #[.int .i64 k, .int .i64 n, .string s] 48)).alloc (.cells #[.int .i64 k, .int .i64 z] 24) = W0 at *
          refine (CK W0).mono ?_
          rintro e W1 ⟨rfl, hb1⟩
          have hx1 := below_at hb1 hx0
          have hy1 := below_at hb1 hy0
          obtain ⟨⟨c0, c1, c2⟩, _⟩ := blk3 hx1
          obtain ⟨⟨d0, d1⟩, _⟩ := blk2 hy1
          have b1 := hb0.trans (hb1.mono hb0.size)
          clear hx0 hy0
          go_wp2_with fail
          refine (CF W1).mono ?_
          rintro e W2 ⟨rfl, hb2⟩
          have hx2 := below_at hb2 hx1
          have hy2 := below_at hb2 hy1
          obtain ⟨⟨c0, c1, c2⟩, _⟩ := blk3 hx2
          obtain ⟨⟨d0, d1⟩, _⟩ := blk2 hy2
          have b2 := b1.trans (hb2.mono b1.size)
          clear hx1 hy1
          go_wp2_with fail
          go_ret
          exact ⟨rfl, b2⟩
      · have he' : (k == k') = false := by simpa using he
        have hA := of_no2 k n s.size k' z he
        clear hc hf
        rw [show ofB k n s.size k' z = false from by exact hA]
        go_enter Try.func34, Try.ntmps34
        go_wp2_with fail
        generalize (w.alloc (.cells #[.int .i64 k, .int .i64 n, .string s] 48)).alloc (.cells #[.int .i64 k', .int .i64 z] 24) = W0 at *
        refine (CK W0).mono ?_
        rintro e W1 ⟨rfl, hb1⟩
        have hx1 := below_at hb1 hx0
        have hy1 := below_at hb1 hy0
        obtain ⟨⟨c0, c1, c2⟩, _⟩ := blk3 hx1
        obtain ⟨⟨d0, d1⟩, _⟩ := blk2 hy1
        have b1 := hb0.trans (hb1.mono hb0.size)
        clear hx0 hy0
        go_wp2_with fail
        refine (CF W1).mono ?_
        rintro e W2 ⟨rfl, hb2⟩
        have hx2 := below_at hb2 hx1
        have hy2 := below_at hb2 hy1
        obtain ⟨⟨c0, c1, c2⟩, _⟩ := blk3 hx2
        obtain ⟨⟨d0, d1⟩, _⟩ := blk2 hy2
        have b2 := b1.trans (hb2.mono b1.size)
        clear hx1 hy1
        go_wp2_with fail
        go_ret
        exact ⟨rfl, b2⟩
end Go.Proofs.Ytfocmlajeflenaa
