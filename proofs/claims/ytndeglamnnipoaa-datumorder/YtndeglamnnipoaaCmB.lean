/-
  The reference's Compare.
-/
import Derived.Test.YtndeglamnnipoaaCmA
namespace Go.Proofs.Ytndeglamnnipoaa
set_option linter.unusedVariables false
set_option linter.unusedSimpArgs false
open Go.ChangeShapes Go.WideShapes Go.ChangeAt Go.RowKit Go.Deep Go.Sort

set_option maxRecDepth 100000 in
set_option maxHeartbeats 8000000 in
theorem rcompare_any (k n : Int) (s : ByteArray) (k' n' : Int) (s' : ByteArray) (w : World) (w1 : (Lit.int .i64 n).wf = true) (w2 : (Lit.int .i64 n').wf = true) (z1 : s.size ≤ maxLen) (z2 : s'.size ≤ maxLen) : Calls Try.prog 18 #[.agg #[.int .i64 k, .int .i64 n, .string s], .agg #[.int .i64 k', .int .i64 n', .string s']] w fun e w' => e = .returned (.tuple #[.int .i64 (cmpN k n s.data.toList k' n' s'.data.toList), .bool (cmpB k n s.data.toList k' n' s'.data.toList)]) ∧ Below w.heap.size w w' := by
  have hA := cmpA_eq k n s k' n' s'
  have hN := @cmp_no k n s.data.toList k' n' s'.data.toList
  have hS := @cmp_s k n s.data.toList k' n' s'.data.toList
  have hF := @cmp_f k n s.data.toList k' n' s'.data.toList
  have hI := @cmp_i k n s.data.toList k' n' s'.data.toList
  generalize hcn : cmpN k n s.data.toList k' n' s'.data.toList = cn at *
  generalize hcb : cmpB k n s.data.toList k' n' s'.data.toList = cb at *
  generalize hca : cmpA k n s.data.toList k' n' s'.data.toList = ca at *
  clear hcn hcb hca
  have hx0 : ((w.alloc (.cells #[.int .i64 k, .int .i64 n, .string s] 29)).alloc (.cells #[.int .i64 k', .int .i64 n', .string s'] 29)).heap[w.heap.size]? = some (.cells #[.int .i64 k, .int .i64 n, .string s] 29 (0, 0)) := below_at (alloc_below _ _) (heap_new _ _)
  have hy0 : ((w.alloc (.cells #[.int .i64 k, .int .i64 n, .string s] 29)).alloc (.cells #[.int .i64 k', .int .i64 n', .string s'] 29)).heap[w.heap.size + 1]? = some (.cells #[.int .i64 k', .int .i64 n', .string s'] 29 (0, 0)) := heap2_new _ _ _
  have hB0 : Below w.heap.size w ((w.alloc (.cells #[.int .i64 k, .int .i64 n, .string s] 29)).alloc (.cells #[.int .i64 k', .int .i64 n', .string s'] 29)) := (alloc_below _ _).alloc (by simp) _
  have F1 := fun W => rfine_any k n s w1 W
  have F2 := fun W => rfine_any k' n' s' w2 W
  have T := fun W => texts_any s s' W z1 z2
  have R1 := fun W => rreal_any k n s w1 W
  have R2 := fun W => rreal_any k' n' s' w2 W
  unfold rlB at R1 R2
  clear w1 w2 z1 z2
  generalize fineB k n s.size = f1 at *
  generalize fineB k' n' s'.size = f2 at *
  cases f1
  · have HE : Hid (cn = 0 ∧ cb = false) := hN (hA.trans (by simp))
    clear hA hN hS hF hI F2 T R1 R2
    go_enter Try.func18, Try.ntmps18
    go_wp2_with fail
    generalize ((w.alloc (.cells #[.int .i64 k, .int .i64 n, .string s] 29)).alloc (.cells #[.int .i64 k', .int .i64 n', .string s'] 29)) = W0 at *
    refine (F1 W0).mono ?_
    rintro e W1 ⟨rfl, hb1⟩
    have hx1 := below_at hb1 hx0
    have hy1 := below_at hb1 hy0
    have hB1 := hB0.trans (hb1.mono hB0.size)
    clear hx0 hy0 hB0 hb1
    obtain ⟨⟨c0, c1, c2⟩, _⟩ := blk3 hx1
    obtain ⟨⟨d0, d1, d2⟩, _⟩ := blk3 hy1
    go_wp2_with fail
    go_ret2
    exact ⟨(by rw [HE.out.1, HE.out.2]; try rfl), hB1⟩
  cases f2
  · have HE : Hid (cn = 0 ∧ cb = false) := hN (hA.trans (by simp))
    clear hA hN hS hF hI T R1 R2
    go_enter Try.func18, Try.ntmps18
    go_wp2_with fail
    generalize ((w.alloc (.cells #[.int .i64 k, .int .i64 n, .string s] 29)).alloc (.cells #[.int .i64 k', .int .i64 n', .string s'] 29)) = W0 at *
    refine (F1 W0).mono ?_
    rintro e W1 ⟨rfl, hb1⟩
    have hx1 := below_at hb1 hx0
    have hy1 := below_at hb1 hy0
    have hB1 := hB0.trans (hb1.mono hB0.size)
    clear hx0 hy0 hB0 hb1
    obtain ⟨⟨c0, c1, c2⟩, _⟩ := blk3 hx1
    obtain ⟨⟨d0, d1, d2⟩, _⟩ := blk3 hy1
    go_wp2_with fail
    refine (F2 W1).mono ?_
    rintro e W2 ⟨rfl, hb2⟩
    have hx2 := below_at hb2 hx1
    have hy2 := below_at hb2 hy1
    have hB2 := hB1.trans (hb2.mono hB1.size)
    clear hx1 hy1 hB1 hb2
    obtain ⟨⟨c0, c1, c2⟩, _⟩ := blk3 hx2
    obtain ⟨⟨d0, d1, d2⟩, _⟩ := blk3 hy2
    go_wp2_with fail
    go_ret2
    exact ⟨(by rw [HE.out.1, HE.out.2]; try rfl), hB2⟩
  by_cases he : k = k'
  case neg =>
    have he' : (k == k') = false := by simpa using he
    have HE : Hid (cn = 0 ∧ cb = false) := hN (hA.trans (by rw [he']; simp))
    clear hA hN hS hF hI T R1 R2
    go_enter Try.func18, Try.ntmps18
    go_wp2_with fail
    generalize ((w.alloc (.cells #[.int .i64 k, .int .i64 n, .string s] 29)).alloc (.cells #[.int .i64 k', .int .i64 n', .string s'] 29)) = W0 at *
    refine (F1 W0).mono ?_
    rintro e W1 ⟨rfl, hb1⟩
    have hx1 := below_at hb1 hx0
    have hy1 := below_at hb1 hy0
    have hB1 := hB0.trans (hb1.mono hB0.size)
    clear hx0 hy0 hB0 hb1
    obtain ⟨⟨c0, c1, c2⟩, _⟩ := blk3 hx1
    obtain ⟨⟨d0, d1, d2⟩, _⟩ := blk3 hy1
    go_wp2_with fail
    refine (F2 W1).mono ?_
    rintro e W2 ⟨rfl, hb2⟩
    have hx2 := below_at hb2 hx1
    have hy2 := below_at hb2 hy1
    have hB2 := hB1.trans (hb2.mono hB1.size)
    clear hx1 hy1 hB1 hb2
    obtain ⟨⟨c0, c1, c2⟩, _⟩ := blk3 hx2
    obtain ⟨⟨d0, d1, d2⟩, _⟩ := blk3 hy2
    go_wp2_with fail
    go_ret2
    exact ⟨(by rw [HE.out.1, HE.out.2]; try rfl), hB2⟩
  subst he
  have hca : ca = true := hA.trans (by simp)
  clear hA hN
  by_cases h6 : k = 6
  · subst h6
    have HE : Hid (cn = lexC s.data.toList s'.data.toList ∧ cb = true) := hS hca (by omega)
    clear hS hF hI hca R1 R2
    go_enter Try.func18, Try.ntmps18
    go_wp2_with fail
    generalize ((w.alloc (.cells #[.int .i64 6, .int .i64 n, .string s] 29)).alloc (.cells #[.int .i64 6, .int .i64 n', .string s'] 29)) = W0 at *
    refine (F1 W0).mono ?_
    rintro e W1 ⟨rfl, hb1⟩
    have hx1 := below_at hb1 hx0
    have hy1 := below_at hb1 hy0
    have hB1 := hB0.trans (hb1.mono hB0.size)
    clear hx0 hy0 hB0 hb1
    obtain ⟨⟨c0, c1, c2⟩, _⟩ := blk3 hx1
    obtain ⟨⟨d0, d1, d2⟩, _⟩ := blk3 hy1
    go_wp2_with fail
    refine (F2 W1).mono ?_
    rintro e W2 ⟨rfl, hb2⟩
    have hx2 := below_at hb2 hx1
    have hy2 := below_at hb2 hy1
    have hB2 := hB1.trans (hb2.mono hB1.size)
    clear hx1 hy1 hB1 hb2
    obtain ⟨⟨c0, c1, c2⟩, _⟩ := blk3 hx2
    obtain ⟨⟨d0, d1, d2⟩, _⟩ := blk3 hy2
    go_wp2_with fail
    refine (T W2).mono ?_
    rintro e W3 ⟨rfl, hb3⟩
    have hx3 := below_at hb3 hx2
    have hy3 := below_at hb3 hy2
    have hB3 := hB2.trans (hb3.mono hB2.size)
    clear hx2 hy2 hB2 hb3
    obtain ⟨⟨c0, c1, c2⟩, _⟩ := blk3 hx3
    obtain ⟨⟨d0, d1, d2⟩, _⟩ := blk3 hy3
    go_wp2_with fail
    go_ret2
    exact ⟨(by rw [HE.out.1, HE.out.2]; try rfl), hB3⟩
  by_cases h7 : k = 7
  · subst h7
    have HE : Hid (cn = lexC s.data.toList s'.data.toList ∧ cb = true) := hS hca (by omega)
    clear hS hF hI hca R1 R2
    go_enter Try.func18, Try.ntmps18
    go_wp2_with fail
    generalize ((w.alloc (.cells #[.int .i64 7, .int .i64 n, .string s] 29)).alloc (.cells #[.int .i64 7, .int .i64 n', .string s'] 29)) = W0 at *
    refine (F1 W0).mono ?_
    rintro e W1 ⟨rfl, hb1⟩
    have hx1 := below_at hb1 hx0
    have hy1 := below_at hb1 hy0
    have hB1 := hB0.trans (hb1.mono hB0.size)
    clear hx0 hy0 hB0 hb1
    obtain ⟨⟨c0, c1, c2⟩, _⟩ := blk3 hx1
    obtain ⟨⟨d0, d1, d2⟩, _⟩ := blk3 hy1
    go_wp2_with fail
    refine (F2 W1).mono ?_
    rintro e W2 ⟨rfl, hb2⟩
    have hx2 := below_at hb2 hx1
    have hy2 := below_at hb2 hy1
    have hB2 := hB1.trans (hb2.mono hB1.size)
    clear hx1 hy1 hB1 hb2
    obtain ⟨⟨c0, c1, c2⟩, _⟩ := blk3 hx2
    obtain ⟨⟨d0, d1, d2⟩, _⟩ := blk3 hy2
    go_wp2_with fail
    refine (T W2).mono ?_
    rintro e W3 ⟨rfl, hb3⟩
    have hx3 := below_at hb3 hx2
    have hy3 := below_at hb3 hy2
    have hB3 := hB2.trans (hb3.mono hB2.size)
    clear hx2 hy2 hB2 hb3
    obtain ⟨⟨c0, c1, c2⟩, _⟩ := blk3 hx3
    obtain ⟨⟨d0, d1, d2⟩, _⟩ := blk3 hy3
    go_wp2_with fail
    go_ret2
    exact ⟨(by rw [HE.out.1, HE.out.2]; try rfl), hB3⟩
  by_cases h4 : k = 4
  · subst h4
    have HE : Hid (cn = oN (ordF 4 n n') ∧ cb = (ordF 4 n n').isSome) := hF hca (by omega)
    clear hS hF hI hca T
    go_enter Try.func18, Try.ntmps18
    go_wp2_with fail
    generalize ((w.alloc (.cells #[.int .i64 4, .int .i64 n, .string s] 29)).alloc (.cells #[.int .i64 4, .int .i64 n', .string s'] 29)) = W0 at *
    refine (F1 W0).mono ?_
    rintro e W1 ⟨rfl, hb1⟩
    have hx1 := below_at hb1 hx0
    have hy1 := below_at hb1 hy0
    have hB1 := hB0.trans (hb1.mono hB0.size)
    clear hx0 hy0 hB0 hb1
    obtain ⟨⟨c0, c1, c2⟩, _⟩ := blk3 hx1
    obtain ⟨⟨d0, d1, d2⟩, _⟩ := blk3 hy1
    go_wp2_with fail
    refine (F2 W1).mono ?_
    rintro e W2 ⟨rfl, hb2⟩
    have hx2 := below_at hb2 hx1
    have hy2 := below_at hb2 hy1
    have hB2 := hB1.trans (hb2.mono hB1.size)
    clear hx1 hy1 hB1 hb2
    obtain ⟨⟨c0, c1, c2⟩, _⟩ := blk3 hx2
    obtain ⟨⟨d0, d1, d2⟩, _⟩ := blk3 hy2
    go_wp2_with fail
    refine (R1 W2).mono ?_
    rintro e W3 ⟨r1, rfl, h1, -, hb3⟩
    have hx3 := below_at hb3 hx2
    have hy3 := below_at hb3 hy2
    have hB3 := hB2.trans (hb3.mono hB2.size)
    clear hx2 hy2 hB2 hb3
    obtain ⟨⟨c0, c1, c2⟩, _⟩ := blk3 hx3
    obtain ⟨⟨d0, d1, d2⟩, _⟩ := blk3 hy3
    go_wp2_with fail
    refine (R2 W3).mono ?_
    rintro e W4 ⟨r2, rfl, h2, -, hb4⟩
    have hx4 := below_at hb4 hx3
    have hy4 := below_at hb4 hy3
    have hB4 := hB3.trans (hb4.mono hB3.size)
    clear hx3 hy3 hB3 hb4
    obtain ⟨⟨c0, c1, c2⟩, _⟩ := blk3 hx4
    obtain ⟨⟨d0, d1, d2⟩, _⟩ := blk3 hy4
    have ho : FloatKind.f64.format.order r1 r2 = _ := isR_ord (h1 rfl) (h2 rfl)
    clear h1 h2
    generalize ordF 4 n n' = o at *
    rcases o with _ | o
    · go_wp2_with fail
      go_ret2
      exact ⟨(by rw [HE.out.1, HE.out.2]; try rfl), hB4⟩
    cases o
    all_goals
      go_wp2_with fail
      go_ret2
      exact ⟨(by rw [HE.out.1, HE.out.2]; try rfl), hB4⟩
  by_cases h5 : k = 5
  · subst h5
    have HE : Hid (cn = oN (ordF 5 n n') ∧ cb = (ordF 5 n n').isSome) := hF hca (by omega)
    clear hS hF hI hca T
    go_enter Try.func18, Try.ntmps18
    go_wp2_with fail
    generalize ((w.alloc (.cells #[.int .i64 5, .int .i64 n, .string s] 29)).alloc (.cells #[.int .i64 5, .int .i64 n', .string s'] 29)) = W0 at *
    refine (F1 W0).mono ?_
    rintro e W1 ⟨rfl, hb1⟩
    have hx1 := below_at hb1 hx0
    have hy1 := below_at hb1 hy0
    have hB1 := hB0.trans (hb1.mono hB0.size)
    clear hx0 hy0 hB0 hb1
    obtain ⟨⟨c0, c1, c2⟩, _⟩ := blk3 hx1
    obtain ⟨⟨d0, d1, d2⟩, _⟩ := blk3 hy1
    go_wp2_with fail
    refine (F2 W1).mono ?_
    rintro e W2 ⟨rfl, hb2⟩
    have hx2 := below_at hb2 hx1
    have hy2 := below_at hb2 hy1
    have hB2 := hB1.trans (hb2.mono hB1.size)
    clear hx1 hy1 hB1 hb2
    obtain ⟨⟨c0, c1, c2⟩, _⟩ := blk3 hx2
    obtain ⟨⟨d0, d1, d2⟩, _⟩ := blk3 hy2
    go_wp2_with fail
    refine (R1 W2).mono ?_
    rintro e W3 ⟨r1, rfl, h1, -, hb3⟩
    have hx3 := below_at hb3 hx2
    have hy3 := below_at hb3 hy2
    have hB3 := hB2.trans (hb3.mono hB2.size)
    clear hx2 hy2 hB2 hb3
    obtain ⟨⟨c0, c1, c2⟩, _⟩ := blk3 hx3
    obtain ⟨⟨d0, d1, d2⟩, _⟩ := blk3 hy3
    go_wp2_with fail
    refine (R2 W3).mono ?_
    rintro e W4 ⟨r2, rfl, h2, -, hb4⟩
    have hx4 := below_at hb4 hx3
    have hy4 := below_at hb4 hy3
    have hB4 := hB3.trans (hb4.mono hB3.size)
    clear hx3 hy3 hB3 hb4
    obtain ⟨⟨c0, c1, c2⟩, _⟩ := blk3 hx4
    obtain ⟨⟨d0, d1, d2⟩, _⟩ := blk3 hy4
    have ho : FloatKind.f64.format.order r1 r2 = _ := isR_ord (h1 rfl) (h2 rfl)
    clear h1 h2
    generalize ordF 5 n n' = o at *
    rcases o with _ | o
    · go_wp2_with fail
      go_ret2
      exact ⟨(by rw [HE.out.1, HE.out.2]; try rfl), hB4⟩
    cases o
    all_goals
      go_wp2_with fail
      go_ret2
      exact ⟨(by rw [HE.out.1, HE.out.2]; try rfl), hB4⟩
  have HE0 : cn = cI n n' ∧ cb = true := hI hca h4 h5 h6 h7
  clear hS hF hI hca T
  have g4 : (k == 4) = false := by simpa using h4
  have g5 : (k == 5) = false := by simpa using h5
  have g6 : (k == 6) = false := by simpa using h6
  have g7 : (k == 7) = false := by simpa using h7
  rw [g4, g5] at R1 R2
  by_cases l : n < n'
  · have HE : Hid (cn = -1 ∧ cb = true) := by have h := HE0.1; unfold cI at h; rw [if_pos l] at h; exact ⟨h, HE0.2⟩
    clear HE0
    go_enter Try.func18, Try.ntmps18
    go_wp2_with fail
    generalize ((w.alloc (.cells #[.int .i64 k, .int .i64 n, .string s] 29)).alloc (.cells #[.int .i64 k, .int .i64 n', .string s'] 29)) = W0 at *
    refine (F1 W0).mono ?_
    rintro e W1 ⟨rfl, hb1⟩
    have hx1 := below_at hb1 hx0
    have hy1 := below_at hb1 hy0
    have hB1 := hB0.trans (hb1.mono hB0.size)
    clear hx0 hy0 hB0 hb1
    obtain ⟨⟨c0, c1, c2⟩, _⟩ := blk3 hx1
    obtain ⟨⟨d0, d1, d2⟩, _⟩ := blk3 hy1
    go_wp2_with fail
    refine (F2 W1).mono ?_
    rintro e W2 ⟨rfl, hb2⟩
    have hx2 := below_at hb2 hx1
    have hy2 := below_at hb2 hy1
    have hB2 := hB1.trans (hb2.mono hB1.size)
    clear hx1 hy1 hB1 hb2
    obtain ⟨⟨c0, c1, c2⟩, _⟩ := blk3 hx2
    obtain ⟨⟨d0, d1, d2⟩, _⟩ := blk3 hy2
    go_wp2_with fail
    refine (R1 W2).mono ?_
    rintro e W3 ⟨r1, rfl, -, -, hb3⟩
    have hx3 := below_at hb3 hx2
    have hy3 := below_at hb3 hy2
    have hB3 := hB2.trans (hb3.mono hB2.size)
    clear hx2 hy2 hB2 hb3
    obtain ⟨⟨c0, c1, c2⟩, _⟩ := blk3 hx3
    obtain ⟨⟨d0, d1, d2⟩, _⟩ := blk3 hy3
    go_wp2_with fail
    refine (R2 W3).mono ?_
    rintro e W4 ⟨r2, rfl, -, -, hb4⟩
    have hx4 := below_at hb4 hx3
    have hy4 := below_at hb4 hy3
    have hB4 := hB3.trans (hb4.mono hB3.size)
    clear hx3 hy3 hB3 hb4
    obtain ⟨⟨c0, c1, c2⟩, _⟩ := blk3 hx4
    obtain ⟨⟨d0, d1, d2⟩, _⟩ := blk3 hy4
    go_wp2_with fail
    go_ret2
    exact ⟨(by rw [HE.out.1, HE.out.2]; try rfl), hB4⟩
  have l1 := l
  clear l
  by_cases l : n' < n
  · have HE : Hid (cn = 1 ∧ cb = true) := by have h := HE0.1; unfold cI at h; rw [if_neg l1, if_pos l] at h; exact ⟨h, HE0.2⟩
    clear HE0
    go_enter Try.func18, Try.ntmps18
    go_wp2_with fail
    generalize ((w.alloc (.cells #[.int .i64 k, .int .i64 n, .string s] 29)).alloc (.cells #[.int .i64 k, .int .i64 n', .string s'] 29)) = W0 at *
    refine (F1 W0).mono ?_
    rintro e W1 ⟨rfl, hb1⟩
    have hx1 := below_at hb1 hx0
    have hy1 := below_at hb1 hy0
    have hB1 := hB0.trans (hb1.mono hB0.size)
    clear hx0 hy0 hB0 hb1
    obtain ⟨⟨c0, c1, c2⟩, _⟩ := blk3 hx1
    obtain ⟨⟨d0, d1, d2⟩, _⟩ := blk3 hy1
    go_wp2_with fail
    refine (F2 W1).mono ?_
    rintro e W2 ⟨rfl, hb2⟩
    have hx2 := below_at hb2 hx1
    have hy2 := below_at hb2 hy1
    have hB2 := hB1.trans (hb2.mono hB1.size)
    clear hx1 hy1 hB1 hb2
    obtain ⟨⟨c0, c1, c2⟩, _⟩ := blk3 hx2
    obtain ⟨⟨d0, d1, d2⟩, _⟩ := blk3 hy2
    go_wp2_with fail
    refine (R1 W2).mono ?_
    rintro e W3 ⟨r1, rfl, -, -, hb3⟩
    have hx3 := below_at hb3 hx2
    have hy3 := below_at hb3 hy2
    have hB3 := hB2.trans (hb3.mono hB2.size)
    clear hx2 hy2 hB2 hb3
    obtain ⟨⟨c0, c1, c2⟩, _⟩ := blk3 hx3
    obtain ⟨⟨d0, d1, d2⟩, _⟩ := blk3 hy3
    go_wp2_with fail
    refine (R2 W3).mono ?_
    rintro e W4 ⟨r2, rfl, -, -, hb4⟩
    have hx4 := below_at hb4 hx3
    have hy4 := below_at hb4 hy3
    have hB4 := hB3.trans (hb4.mono hB3.size)
    clear hx3 hy3 hB3 hb4
    obtain ⟨⟨c0, c1, c2⟩, _⟩ := blk3 hx4
    obtain ⟨⟨d0, d1, d2⟩, _⟩ := blk3 hy4
    go_wp2_with fail
    go_ret2
    exact ⟨(by rw [HE.out.1, HE.out.2]; try rfl), hB4⟩
  have HE : Hid (cn = 0 ∧ cb = true) := by have h := HE0.1; unfold cI at h; rw [if_neg l1, if_neg l] at h; exact ⟨h, HE0.2⟩
  clear HE0
  go_enter Try.func18, Try.ntmps18
  go_wp2_with fail
  generalize ((w.alloc (.cells #[.int .i64 k, .int .i64 n, .string s] 29)).alloc (.cells #[.int .i64 k, .int .i64 n', .string s'] 29)) = W0 at *
  refine (F1 W0).mono ?_
  rintro e W1 ⟨rfl, hb1⟩
  have hx1 := below_at hb1 hx0
  have hy1 := below_at hb1 hy0
  have hB1 := hB0.trans (hb1.mono hB0.size)
  clear hx0 hy0 hB0 hb1
  obtain ⟨⟨c0, c1, c2⟩, _⟩ := blk3 hx1
  obtain ⟨⟨d0, d1, d2⟩, _⟩ := blk3 hy1
  go_wp2_with fail
  refine (F2 W1).mono ?_
  rintro e W2 ⟨rfl, hb2⟩
  have hx2 := below_at hb2 hx1
  have hy2 := below_at hb2 hy1
  have hB2 := hB1.trans (hb2.mono hB1.size)
  clear hx1 hy1 hB1 hb2
  obtain ⟨⟨c0, c1, c2⟩, _⟩ := blk3 hx2
  obtain ⟨⟨d0, d1, d2⟩, _⟩ := blk3 hy2
  go_wp2_with fail
  refine (R1 W2).mono ?_
  rintro e W3 ⟨r1, rfl, -, -, hb3⟩
  have hx3 := below_at hb3 hx2
  have hy3 := below_at hb3 hy2
  have hB3 := hB2.trans (hb3.mono hB2.size)
  clear hx2 hy2 hB2 hb3
  obtain ⟨⟨c0, c1, c2⟩, _⟩ := blk3 hx3
  obtain ⟨⟨d0, d1, d2⟩, _⟩ := blk3 hy3
  go_wp2_with fail
  refine (R2 W3).mono ?_
  rintro e W4 ⟨r2, rfl, -, -, hb4⟩
  have hx4 := below_at hb4 hx3
  have hy4 := below_at hb4 hy3
  have hB4 := hB3.trans (hb4.mono hB3.size)
  clear hx3 hy3 hB3 hb4
  obtain ⟨⟨c0, c1, c2⟩, _⟩ := blk3 hx4
  obtain ⟨⟨d0, d1, d2⟩, _⟩ := blk3 hy4
  go_wp2_with fail
  go_ret2
  exact ⟨(by rw [HE.out.1, HE.out.2]; try rfl), hB4⟩
end Go.Proofs.Ytndeglamnnipoaa
