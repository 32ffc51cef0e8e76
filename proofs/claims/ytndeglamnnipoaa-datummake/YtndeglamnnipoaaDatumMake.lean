/-
For any numbers and any text of at most 2000 bytes: what Bool, Int32, Int64, Double, Float, Bytes and Fixed make is what the document says, and of its type. No condition.
-/
import Derived.Test.YtndeglamnnipoaaRows
import Derived.Test.YtndeglamnnipoaaFrame
import Derived.Test.YtndeglamnnipoaaMk
import Derived.Lib.QuietBelow
import Derived.WalkKit
import Derived.ProofKit
import Derived.OpenShut
import Derived.ShutString
import Derived.ChangeOld
import Derived.ChangeMaps5
import Derived.Below
namespace Go.Proofs.Ytndeglamnnipoaa.datumMake
open Go.ChangeShapes Go.WideShapes Go.ChangeAt Go.RowKit Go.Deep Go.Sort
set_option linter.unusedVariables false
set_option linter.unusedSimpArgs false

set_option maxRecDepth 100000 in
set_option maxHeartbeats 8000000 in
theorem walk (a0 : Int) (a1 : Int) (s2 : ByteArray) (w : World) (w0 : (Lit.int .i64 a0).wf = true) (w1 : (Lit.int .u64 a1).wf = true) (w2 : s2.size ≤ maxLen) :
    Calls Try.prog 9 #[.int .i64 a0, .int .u64 a1, .string s2] w fun e w' => e = .returned (.bool true) ∧ Below w.heap.size w w' := by
  by_cases hlen : s2.size ≤ 2000
  case neg =>
    have hl : (2000 : Int) < (s2.size : Int) := by omega
    clear hlen w0 w1 w2
    go_enter Try.func9, Try.ntmps9
    go_wp2_with fail
    go_ret
    exact ⟨rfl, Below.refl _ _⟩
  have hl : ¬ (2000 : Int) < (s2.size : Int) := by omega
  have hr1 : -2147483648 ≤ a0.tmod 2147483648 := by have := Int.lt_tmod_of_pos a0 (show (0 : Int) < 2147483648 by omega); omega
  have hr2 : a0.tmod 2147483648 ≤ 2147483647 := by have := Int.tmod_lt_of_pos a0 (show (0 : Int) < 2147483648 by omega); omega
  have hx0 : 0 ≤ a1 ∧ a1 ≤ 18446744073709551615 := by simpa [Lit.wf, IntKind.min, IntKind.max, IntKind.signed, IntKind.bits] using w1
  obtain ⟨x, rfl⟩ : ∃ x : Nat, a1 = x := ⟨a1.toNat, by omega⟩
  obtain ⟨y, hy⟩ : ∃ y : Nat, (x : Int) % 4294967296 = (y : Int) := ⟨x % 4294967296, by omega⟩
  have hy2 : (y : Int) ≤ 4294967295 := by omega
  have X0 := fun W => ext64 (x : Int) W
  have X1 := fun W => ext32 (y : Int) W
  rw [Int.toNat_natCast] at X0 X1
  obtain ⟨z, hz⟩ : ∃ z, wrap64 (x : Int) = z := ⟨_, rfl⟩
  have hzw : (Lit.int .i64 z).wf = true := by rw [← hz]; exact wrap64_wf _
  have hzu : IntKind.u64.wrap z = (x : Int) := by rw [← hz]; exact unwrap64 _ (by omega) (by omega)
  have CD := fun W => double_any x W
  rw [hz] at CD
  have CI := fun W => int32_any (a0.tmod 2147483648) hr1 hr2 W
  have CF := fun W => float_any y hy2 W
  have q1 : ofB 1 (a0.tmod 2147483648) 0 1 0 = true := by simp [ofB, chkB, fineB, kn, inB, bo]; omega
  have q2 : ofB 2 a0 0 2 0 = true := by have h := w0; simp [Lit.wf, IntKind.min, IntKind.max, IntKind.signed, IntKind.bits] at h; simp [ofB, chkB, fineB, kn, inB, bo]; omega
  have q4 : ofB 4 (y : Int) 0 4 0 = true := by simp [ofB, chkB, fineB, kn, inB, bo]; omega
  have q5 : ofB 5 z 0 5 0 = true := by have h := hzw; simp [Lit.wf, IntKind.min, IntKind.max, IntKind.signed, IntKind.bits] at h; simp [ofB, chkB, fineB, kn, inB, bo]; omega
  have q6 : ofB 6 0 s2.size 6 0 = true := by simp [ofB, chkB, fineB, kn, inB, bo]; omega
  have e0 : ({ data := #[] } : ByteArray).size = 0 := rfl
  have R1 := fun W => rof_any 1 (a0.tmod 2147483648) { data := #[] } 1 0 (by simp [Lit.wf, IntKind.min, IntKind.max, IntKind.signed, IntKind.bits]; omega) W
  have R2 := fun W => rof_any 2 a0 { data := #[] } 2 0 w0 W
  have R4 := fun W => rof_any 4 (y : Int) { data := #[] } 4 0 (by simp [Lit.wf, IntKind.min, IntKind.max, IntKind.signed, IntKind.bits]; omega) W
  have R5 := fun W => rof_any 5 z { data := #[] } 5 0 hzw W
  have R6 := fun W => rof_any 6 0 s2 6 0 (by decide) W
  rw [e0, q1] at R1
  rw [e0, q2] at R2
  rw [e0, q4] at R4
  rw [e0, q5] at R5
  rw [q6] at R6
  have ho : FloatKind.f64.format.order x x = if nan64 x = true then none else some .eq := by
    cases h : nan64 x
    · exact (order_V h h).trans (by rw [cmp_eq]; rfl)
    · exact order_nan (.inl h)
  have HZ : Hid (wrap64 (x : Int) = z) := hz
  have hs2 : s2.size ≤ maxLen := w2
  clear w0 w1 w2 hx0 hz hzw q1 q2 q4 q5 q6 e0 hlen
  by_cases h2 : a0.tmod 2 = 0
  · skip
    have R0 := fun W => rof_any 0 1 { data := #[] } 0 0 (by decide) W
    rw [show ofB 0 1 ({ data := #[] } : ByteArray).size 0 0 = true from by decide] at R0
    go_enter Try.func9, Try.ntmps9
    go_wp2_with fail
    have B0 : Below w.heap.size w w := Below.refl _ _
    refine (bool_t w).mono ?_
    rintro e W1 ⟨rfl, hb⟩
    replace B0 := B0.trans (hb.mono B0.size)
    clear hb
    go_wp2_with fail
    refine (CI W1).mono ?_
    rintro e W2 ⟨rfl, hb⟩
    replace B0 := B0.trans (hb.mono B0.size)
    clear hb
    go_wp2_with fail
    have H0 : ((W2.alloc (.cells #[.int .i64 0, .int .i64 1, .string { data := #[] }] 29)).alloc (.cells #[.int .i64 1, .int .i64 (a0.tmod 2147483648), .string { data := #[] }] 29)).heap[W2.heap.size]? = some (.cells #[.int .i64 0, .int .i64 1, .string { data := #[] }] 29 (0, 0)) := below_at (alloc_below _ _) (heap_new _ _)
    have H1 : ((W2.alloc (.cells #[.int .i64 0, .int .i64 1, .string { data := #[] }] 29)).alloc (.cells #[.int .i64 1, .int .i64 (a0.tmod 2147483648), .string { data := #[] }] 29)).heap[W2.heap.size + 1]? = some (.cells #[.int .i64 1, .int .i64 (a0.tmod 2147483648), .string { data := #[] }] 29 (0, 0)) := heap2_new _ _ _
    have hb : Below W2.heap.size W2 ((W2.alloc (.cells #[.int .i64 0, .int .i64 1, .string { data := #[] }] 29)).alloc (.cells #[.int .i64 1, .int .i64 (a0.tmod 2147483648), .string { data := #[] }] 29)) := (alloc_below _ _).alloc (by simp) _
    replace B0 := B0.trans (hb.mono B0.size)
    clear hb
    generalize ((W2.alloc (.cells #[.int .i64 0, .int .i64 1, .string { data := #[] }] 29)).alloc (.cells #[.int .i64 1, .int .i64 (a0.tmod 2147483648), .string { data := #[] }] 29)) = W3 at *
    refine (int64_any a0 W3).mono ?_
    rintro e W4 ⟨rfl, hb⟩
    replace H0 := below_at hb H0
    replace H1 := below_at hb H1
    replace B0 := B0.trans (hb.mono B0.size)
    clear hb
    go_wp2_with fail
    refine (CD W4).mono ?_
    rintro e W5 ⟨rfl, hb⟩
    replace H0 := below_at hb H0
    replace H1 := below_at hb H1
    replace B0 := B0.trans (hb.mono B0.size)
    clear hb
    go_wp2_with fail
    have H2 : ((W5.alloc (.cells #[.int .i64 2, .int .i64 a0, .string { data := #[] }] 29)).alloc (.cells #[.int .i64 5, .int .i64 z, .string { data := #[] }] 29)).heap[W5.heap.size]? = some (.cells #[.int .i64 2, .int .i64 a0, .string { data := #[] }] 29 (0, 0)) := below_at (alloc_below _ _) (heap_new _ _)
    have H3 : ((W5.alloc (.cells #[.int .i64 2, .int .i64 a0, .string { data := #[] }] 29)).alloc (.cells #[.int .i64 5, .int .i64 z, .string { data := #[] }] 29)).heap[W5.heap.size + 1]? = some (.cells #[.int .i64 5, .int .i64 z, .string { data := #[] }] 29 (0, 0)) := heap2_new _ _ _
    have hb : Below W5.heap.size W5 ((W5.alloc (.cells #[.int .i64 2, .int .i64 a0, .string { data := #[] }] 29)).alloc (.cells #[.int .i64 5, .int .i64 z, .string { data := #[] }] 29)) := (alloc_below _ _).alloc (by simp) _
    replace H0 := below_at hb H0
    replace H1 := below_at hb H1
    replace B0 := B0.trans (hb.mono B0.size)
    clear hb
    generalize ((W5.alloc (.cells #[.int .i64 2, .int .i64 a0, .string { data := #[] }] 29)).alloc (.cells #[.int .i64 5, .int .i64 z, .string { data := #[] }] 29)) = W6 at *
    refine (CF W6).mono ?_
    rintro e W7 ⟨rfl, hb⟩
    replace H0 := below_at hb H0
    replace H1 := below_at hb H1
    replace H2 := below_at hb H2
    replace H3 := below_at hb H3
    replace B0 := B0.trans (hb.mono B0.size)
    clear hb
    go_wp2_with fail
    have H4 := heap_new W7 (.cells #[.int .i64 4, .int .i64 (y : Int), .string { data := #[] }] 29)
    have hb : Below W7.heap.size W7 (W7.alloc (.cells #[.int .i64 4, .int .i64 (y : Int), .string { data := #[] }] 29)) := alloc_below _ _
    replace H0 := below_at hb H0
    replace H1 := below_at hb H1
    replace H2 := below_at hb H2
    replace H3 := below_at hb H3
    replace B0 := B0.trans (hb.mono B0.size)
    clear hb
    generalize (W7.alloc (.cells #[.int .i64 4, .int .i64 (y : Int), .string { data := #[] }] 29)) = W8 at *
    refine (bytes_any s2 W8).mono ?_
    rintro e W9 ⟨rfl, hb⟩
    replace H0 := below_at hb H0
    replace H1 := below_at hb H1
    replace H2 := below_at hb H2
    replace H3 := below_at hb H3
    replace H4 := below_at hb H4
    replace B0 := B0.trans (hb.mono B0.size)
    clear hb
    go_wp2_with fail
    refine (fixed_any s2 W9).mono ?_
    rintro e W10 ⟨rfl, hb⟩
    replace H0 := below_at hb H0
    replace H1 := below_at hb H1
    replace H2 := below_at hb H2
    replace H3 := below_at hb H3
    replace H4 := below_at hb H4
    replace B0 := B0.trans (hb.mono B0.size)
    clear hb
    have hbT : Below W10.heap.size W10 ((W10.alloc (.cells #[.int .i64 6, .int .i64 0, .string s2] 29)).alloc (.cells #[.int .i64 7, .int .i64 0, .string s2] 29)) := (alloc_below _ _).alloc (by simp) _
    obtain ⟨⟨y00, y01, y02⟩, _⟩ := blk3 (below_at hbT H0)
    obtain ⟨⟨y10, y11, y12⟩, _⟩ := blk3 (below_at hbT H1)
    obtain ⟨⟨y20, y21, y22⟩, _⟩ := blk3 (below_at hbT H2)
    obtain ⟨⟨y30, y31, y32⟩, _⟩ := blk3 (below_at hbT H3)
    obtain ⟨⟨y40, y41, y42⟩, _⟩ := blk3 (below_at hbT H4)
    clear hbT
    go_wp2_with fail
    clear y00 y01 y02 y10 y11 y12 y20 y21 y22 y30 y31 y32 y40 y41 y42
    have H5 : ((W10.alloc (.cells #[.int .i64 6, .int .i64 0, .string s2] 29)).alloc (.cells #[.int .i64 7, .int .i64 0, .string s2] 29)).heap[W10.heap.size]? = some (.cells #[.int .i64 6, .int .i64 0, .string s2] 29 (0, 0)) := below_at (alloc_below _ _) (heap_new _ _)
    have H6 : ((W10.alloc (.cells #[.int .i64 6, .int .i64 0, .string s2] 29)).alloc (.cells #[.int .i64 7, .int .i64 0, .string s2] 29)).heap[W10.heap.size + 1]? = some (.cells #[.int .i64 7, .int .i64 0, .string s2] 29 (0, 0)) := heap2_new _ _ _
    have hb : Below W10.heap.size W10 ((W10.alloc (.cells #[.int .i64 6, .int .i64 0, .string s2] 29)).alloc (.cells #[.int .i64 7, .int .i64 0, .string s2] 29)) := (alloc_below _ _).alloc (by simp) _
    replace H0 := below_at hb H0
    replace H1 := below_at hb H1
    replace H2 := below_at hb H2
    replace H3 := below_at hb H3
    replace H4 := below_at hb H4
    replace B0 := B0.trans (hb.mono B0.size)
    clear hb
    generalize ((W10.alloc (.cells #[.int .i64 6, .int .i64 0, .string s2] 29)).alloc (.cells #[.int .i64 7, .int .i64 0, .string s2] 29)) = W11 at *
    refine (R0 W11).mono ?_
    rintro e W12 ⟨rfl, hb⟩
    replace H0 := below_at hb H0
    replace H1 := below_at hb H1
    replace H2 := below_at hb H2
    replace H3 := below_at hb H3
    replace H4 := below_at hb H4
    replace H5 := below_at hb H5
    replace H6 := below_at hb H6
    replace B0 := B0.trans (hb.mono B0.size)
    clear hb
    obtain ⟨⟨y00, y01, y02⟩, _⟩ := blk3 H0
    obtain ⟨⟨y10, y11, y12⟩, _⟩ := blk3 H1
    obtain ⟨⟨y20, y21, y22⟩, _⟩ := blk3 H2
    obtain ⟨⟨y30, y31, y32⟩, _⟩ := blk3 H3
    obtain ⟨⟨y40, y41, y42⟩, _⟩ := blk3 H4
    obtain ⟨⟨y50, y51, y52⟩, _⟩ := blk3 H5
    obtain ⟨⟨y60, y61, y62⟩, _⟩ := blk3 H6
    go_wp2_with fail
    clear y00 y01 y02 y10 y11 y12 y20 y21 y22 y30 y31 y32 y40 y41 y42 y50 y51 y52 y60 y61 y62
    refine (R1 W12).mono ?_
    rintro e W13 ⟨rfl, hb⟩
    replace H0 := below_at hb H0
    replace H1 := below_at hb H1
    replace H2 := below_at hb H2
    replace H3 := below_at hb H3
    replace H4 := below_at hb H4
    replace H5 := below_at hb H5
    replace H6 := below_at hb H6
    replace B0 := B0.trans (hb.mono B0.size)
    clear hb
    obtain ⟨⟨y00, y01, y02⟩, _⟩ := blk3 H0
    obtain ⟨⟨y10, y11, y12⟩, _⟩ := blk3 H1
    obtain ⟨⟨y20, y21, y22⟩, _⟩ := blk3 H2
    obtain ⟨⟨y30, y31, y32⟩, _⟩ := blk3 H3
    obtain ⟨⟨y40, y41, y42⟩, _⟩ := blk3 H4
    obtain ⟨⟨y50, y51, y52⟩, _⟩ := blk3 H5
    obtain ⟨⟨y60, y61, y62⟩, _⟩ := blk3 H6
    go_wp2_with fail
    clear y00 y01 y02 y10 y11 y12 y20 y21 y22 y30 y31 y32 y40 y41 y42 y50 y51 y52 y60 y61 y62
    refine (R2 W13).mono ?_
    rintro e W14 ⟨rfl, hb⟩
    replace H0 := below_at hb H0
    replace H1 := below_at hb H1
    replace H2 := below_at hb H2
    replace H3 := below_at hb H3
    replace H4 := below_at hb H4
    replace H5 := below_at hb H5
    replace H6 := below_at hb H6
    replace B0 := B0.trans (hb.mono B0.size)
    clear hb
    obtain ⟨⟨y00, y01, y02⟩, _⟩ := blk3 H0
    obtain ⟨⟨y10, y11, y12⟩, _⟩ := blk3 H1
    obtain ⟨⟨y20, y21, y22⟩, _⟩ := blk3 H2
    obtain ⟨⟨y30, y31, y32⟩, _⟩ := blk3 H3
    obtain ⟨⟨y40, y41, y42⟩, _⟩ := blk3 H4
    obtain ⟨⟨y50, y51, y52⟩, _⟩ := blk3 H5
    obtain ⟨⟨y60, y61, y62⟩, _⟩ := blk3 H6
    go_wp2_with fail
    clear y00 y01 y02 y10 y11 y12 y20 y21 y22 y30 y31 y32 y40 y41 y42 y50 y51 y52 y60 y61 y62
    refine (R5 W14).mono ?_
    rintro e W15 ⟨rfl, hb⟩
    replace H0 := below_at hb H0
    replace H1 := below_at hb H1
    replace H2 := below_at hb H2
    replace H3 := below_at hb H3
    replace H4 := below_at hb H4
    replace H5 := below_at hb H5
    replace H6 := below_at hb H6
    replace B0 := B0.trans (hb.mono B0.size)
    clear hb
    obtain ⟨⟨y00, y01, y02⟩, _⟩ := blk3 H0
    obtain ⟨⟨y10, y11, y12⟩, _⟩ := blk3 H1
    obtain ⟨⟨y20, y21, y22⟩, _⟩ := blk3 H2
    obtain ⟨⟨y30, y31, y32⟩, _⟩ := blk3 H3
    obtain ⟨⟨y40, y41, y42⟩, _⟩ := blk3 H4
    obtain ⟨⟨y50, y51, y52⟩, _⟩ := blk3 H5
    obtain ⟨⟨y60, y61, y62⟩, _⟩ := blk3 H6
    go_wp2_with fail
    clear y00 y01 y02 y10 y11 y12 y20 y21 y22 y30 y31 y32 y40 y41 y42 y50 y51 y52 y60 y61 y62
    refine (R4 W15).mono ?_
    rintro e W16 ⟨rfl, hb⟩
    replace H0 := below_at hb H0
    replace H1 := below_at hb H1
    replace H2 := below_at hb H2
    replace H3 := below_at hb H3
    replace H4 := below_at hb H4
    replace H5 := below_at hb H5
    replace H6 := below_at hb H6
    replace B0 := B0.trans (hb.mono B0.size)
    clear hb
    obtain ⟨⟨y00, y01, y02⟩, _⟩ := blk3 H0
    obtain ⟨⟨y10, y11, y12⟩, _⟩ := blk3 H1
    obtain ⟨⟨y20, y21, y22⟩, _⟩ := blk3 H2
    obtain ⟨⟨y30, y31, y32⟩, _⟩ := blk3 H3
    obtain ⟨⟨y40, y41, y42⟩, _⟩ := blk3 H4
    obtain ⟨⟨y50, y51, y52⟩, _⟩ := blk3 H5
    obtain ⟨⟨y60, y61, y62⟩, _⟩ := blk3 H6
    go_wp2_with fail
    clear y00 y01 y02 y10 y11 y12 y20 y21 y22 y30 y31 y32 y40 y41 y42 y50 y51 y52 y60 y61 y62
    refine (R6 W16).mono ?_
    rintro e W17 ⟨rfl, hb⟩
    replace H0 := below_at hb H0
    replace H1 := below_at hb H1
    replace H2 := below_at hb H2
    replace H3 := below_at hb H3
    replace H4 := below_at hb H4
    replace H5 := below_at hb H5
    replace H6 := below_at hb H6
    replace B0 := B0.trans (hb.mono B0.size)
    clear hb
    obtain ⟨⟨y00, y01, y02⟩, _⟩ := blk3 H0
    obtain ⟨⟨y10, y11, y12⟩, _⟩ := blk3 H1
    obtain ⟨⟨y20, y21, y22⟩, _⟩ := blk3 H2
    obtain ⟨⟨y30, y31, y32⟩, _⟩ := blk3 H3
    obtain ⟨⟨y40, y41, y42⟩, _⟩ := blk3 H4
    obtain ⟨⟨y50, y51, y52⟩, _⟩ := blk3 H5
    obtain ⟨⟨y60, y61, y62⟩, _⟩ := blk3 H6
    cases hn : nan64 x
    all_goals
      rw [hn] at ho
      simp only [if_true, Bool.false_eq_true, if_false] at ho
      go_wp2_with fail
      go_ret
      exact ⟨rfl, B0⟩
  · have h2' : (a0.tmod 2 == 0) = false := by simpa using h2
    have R0 := fun W => rof_any 0 0 { data := #[] } 0 0 (by decide) W
    rw [show ofB 0 0 ({ data := #[] } : ByteArray).size 0 0 = true from by decide] at R0
    go_enter Try.func9, Try.ntmps9
    go_wp2_with fail
    have B0 : Below w.heap.size w w := Below.refl _ _
    refine (bool_f w).mono ?_
    rintro e W1 ⟨rfl, hb⟩
    replace B0 := B0.trans (hb.mono B0.size)
    clear hb
    go_wp2_with fail
    refine (CI W1).mono ?_
    rintro e W2 ⟨rfl, hb⟩
    replace B0 := B0.trans (hb.mono B0.size)
    clear hb
    go_wp2_with fail
    have H0 : ((W2.alloc (.cells #[.int .i64 0, .int .i64 0, .string { data := #[] }] 29)).alloc (.cells #[.int .i64 1, .int .i64 (a0.tmod 2147483648), .string { data := #[] }] 29)).heap[W2.heap.size]? = some (.cells #[.int .i64 0, .int .i64 0, .string { data := #[] }] 29 (0, 0)) := below_at (alloc_below _ _) (heap_new _ _)
    have H1 : ((W2.alloc (.cells #[.int .i64 0, .int .i64 0, .string { data := #[] }] 29)).alloc (.cells #[.int .i64 1, .int .i64 (a0.tmod 2147483648), .string { data := #[] }] 29)).heap[W2.heap.size + 1]? = some (.cells #[.int .i64 1, .int .i64 (a0.tmod 2147483648), .string { data := #[] }] 29 (0, 0)) := heap2_new _ _ _
    have hb : Below W2.heap.size W2 ((W2.alloc (.cells #[.int .i64 0, .int .i64 0, .string { data := #[] }] 29)).alloc (.cells #[.int .i64 1, .int .i64 (a0.tmod 2147483648), .string { data := #[] }] 29)) := (alloc_below _ _).alloc (by simp) _
    replace B0 := B0.trans (hb.mono B0.size)
    clear hb
    generalize ((W2.alloc (.cells #[.int .i64 0, .int .i64 0, .string { data := #[] }] 29)).alloc (.cells #[.int .i64 1, .int .i64 (a0.tmod 2147483648), .string { data := #[] }] 29)) = W3 at *
    refine (int64_any a0 W3).mono ?_
    rintro e W4 ⟨rfl, hb⟩
    replace H0 := below_at hb H0
    replace H1 := below_at hb H1
    replace B0 := B0.trans (hb.mono B0.size)
    clear hb
    go_wp2_with fail
    refine (CD W4).mono ?_
    rintro e W5 ⟨rfl, hb⟩
    replace H0 := below_at hb H0
    replace H1 := below_at hb H1
    replace B0 := B0.trans (hb.mono B0.size)
    clear hb
    go_wp2_with fail
    have H2 : ((W5.alloc (.cells #[.int .i64 2, .int .i64 a0, .string { data := #[] }] 29)).alloc (.cells #[.int .i64 5, .int .i64 z, .string { data := #[] }] 29)).heap[W5.heap.size]? = some (.cells #[.int .i64 2, .int .i64 a0, .string { data := #[] }] 29 (0, 0)) := below_at (alloc_below _ _) (heap_new _ _)
    have H3 : ((W5.alloc (.cells #[.int .i64 2, .int .i64 a0, .string { data := #[] }] 29)).alloc (.cells #[.int .i64 5, .int .i64 z, .string { data := #[] }] 29)).heap[W5.heap.size + 1]? = some (.cells #[.int .i64 5, .int .i64 z, .string { data := #[] }] 29 (0, 0)) := heap2_new _ _ _
    have hb : Below W5.heap.size W5 ((W5.alloc (.cells #[.int .i64 2, .int .i64 a0, .string { data := #[] }] 29)).alloc (.cells #[.int .i64 5, .int .i64 z, .string { data := #[] }] 29)) := (alloc_below _ _).alloc (by simp) _
    replace H0 := below_at hb H0
    replace H1 := below_at hb H1
    replace B0 := B0.trans (hb.mono B0.size)
    clear hb
    generalize ((W5.alloc (.cells #[.int .i64 2, .int .i64 a0, .string { data := #[] }] 29)).alloc (.cells #[.int .i64 5, .int .i64 z, .string { data := #[] }] 29)) = W6 at *
    refine (CF W6).mono ?_
    rintro e W7 ⟨rfl, hb⟩
    replace H0 := below_at hb H0
    replace H1 := below_at hb H1
    replace H2 := below_at hb H2
    replace H3 := below_at hb H3
    replace B0 := B0.trans (hb.mono B0.size)
    clear hb
    go_wp2_with fail
    have H4 := heap_new W7 (.cells #[.int .i64 4, .int .i64 (y : Int), .string { data := #[] }] 29)
    have hb : Below W7.heap.size W7 (W7.alloc (.cells #[.int .i64 4, .int .i64 (y : Int), .string { data := #[] }] 29)) := alloc_below _ _
    replace H0 := below_at hb H0
    replace H1 := below_at hb H1
    replace H2 := below_at hb H2
    replace H3 := below_at hb H3
    replace B0 := B0.trans (hb.mono B0.size)
    clear hb
    generalize (W7.alloc (.cells #[.int .i64 4, .int .i64 (y : Int), .string { data := #[] }] 29)) = W8 at *
    refine (bytes_any s2 W8).mono ?_
    rintro e W9 ⟨rfl, hb⟩
    replace H0 := below_at hb H0
    replace H1 := below_at hb H1
    replace H2 := below_at hb H2
    replace H3 := below_at hb H3
    replace H4 := below_at hb H4
    replace B0 := B0.trans (hb.mono B0.size)
    clear hb
    go_wp2_with fail
    refine (fixed_any s2 W9).mono ?_
    rintro e W10 ⟨rfl, hb⟩
    replace H0 := below_at hb H0
    replace H1 := below_at hb H1
    replace H2 := below_at hb H2
    replace H3 := below_at hb H3
    replace H4 := below_at hb H4
    replace B0 := B0.trans (hb.mono B0.size)
    clear hb
    have hbT : Below W10.heap.size W10 ((W10.alloc (.cells #[.int .i64 6, .int .i64 0, .string s2] 29)).alloc (.cells #[.int .i64 7, .int .i64 0, .string s2] 29)) := (alloc_below _ _).alloc (by simp) _
    obtain ⟨⟨y00, y01, y02⟩, _⟩ := blk3 (below_at hbT H0)
    obtain ⟨⟨y10, y11, y12⟩, _⟩ := blk3 (below_at hbT H1)
    obtain ⟨⟨y20, y21, y22⟩, _⟩ := blk3 (below_at hbT H2)
    obtain ⟨⟨y30, y31, y32⟩, _⟩ := blk3 (below_at hbT H3)
    obtain ⟨⟨y40, y41, y42⟩, _⟩ := blk3 (below_at hbT H4)
    clear hbT
    go_wp2_with fail
    clear y00 y01 y02 y10 y11 y12 y20 y21 y22 y30 y31 y32 y40 y41 y42
    have H5 : ((W10.alloc (.cells #[.int .i64 6, .int .i64 0, .string s2] 29)).alloc (.cells #[.int .i64 7, .int .i64 0, .string s2] 29)).heap[W10.heap.size]? = some (.cells #[.int .i64 6, .int .i64 0, .string s2] 29 (0, 0)) := below_at (alloc_below _ _) (heap_new _ _)
    have H6 : ((W10.alloc (.cells #[.int .i64 6, .int .i64 0, .string s2] 29)).alloc (.cells #[.int .i64 7, .int .i64 0, .string s2] 29)).heap[W10.heap.size + 1]? = some (.cells #[.int .i64 7, .int .i64 0, .string s2] 29 (0, 0)) := heap2_new _ _ _
    have hb : Below W10.heap.size W10 ((W10.alloc (.cells #[.int .i64 6, .int .i64 0, .string s2] 29)).alloc (.cells #[.int .i64 7, .int .i64 0, .string s2] 29)) := (alloc_below _ _).alloc (by simp) _
    replace H0 := below_at hb H0
    replace H1 := below_at hb H1
    replace H2 := below_at hb H2
    replace H3 := below_at hb H3
    replace H4 := below_at hb H4
    replace B0 := B0.trans (hb.mono B0.size)
    clear hb
    generalize ((W10.alloc (.cells #[.int .i64 6, .int .i64 0, .string s2] 29)).alloc (.cells #[.int .i64 7, .int .i64 0, .string s2] 29)) = W11 at *
    refine (R0 W11).mono ?_
    rintro e W12 ⟨rfl, hb⟩
    replace H0 := below_at hb H0
    replace H1 := below_at hb H1
    replace H2 := below_at hb H2
    replace H3 := below_at hb H3
    replace H4 := below_at hb H4
    replace H5 := below_at hb H5
    replace H6 := below_at hb H6
    replace B0 := B0.trans (hb.mono B0.size)
    clear hb
    obtain ⟨⟨y00, y01, y02⟩, _⟩ := blk3 H0
    obtain ⟨⟨y10, y11, y12⟩, _⟩ := blk3 H1
    obtain ⟨⟨y20, y21, y22⟩, _⟩ := blk3 H2
    obtain ⟨⟨y30, y31, y32⟩, _⟩ := blk3 H3
    obtain ⟨⟨y40, y41, y42⟩, _⟩ := blk3 H4
    obtain ⟨⟨y50, y51, y52⟩, _⟩ := blk3 H5
    obtain ⟨⟨y60, y61, y62⟩, _⟩ := blk3 H6
    go_wp2_with fail
    clear y00 y01 y02 y10 y11 y12 y20 y21 y22 y30 y31 y32 y40 y41 y42 y50 y51 y52 y60 y61 y62
    refine (R1 W12).mono ?_
    rintro e W13 ⟨rfl, hb⟩
    replace H0 := below_at hb H0
    replace H1 := below_at hb H1
    replace H2 := below_at hb H2
    replace H3 := below_at hb H3
    replace H4 := below_at hb H4
    replace H5 := below_at hb H5
    replace H6 := below_at hb H6
    replace B0 := B0.trans (hb.mono B0.size)
    clear hb
    obtain ⟨⟨y00, y01, y02⟩, _⟩ := blk3 H0
    obtain ⟨⟨y10, y11, y12⟩, _⟩ := blk3 H1
    obtain ⟨⟨y20, y21, y22⟩, _⟩ := blk3 H2
    obtain ⟨⟨y30, y31, y32⟩, _⟩ := blk3 H3
    obtain ⟨⟨y40, y41, y42⟩, _⟩ := blk3 H4
    obtain ⟨⟨y50, y51, y52⟩, _⟩ := blk3 H5
    obtain ⟨⟨y60, y61, y62⟩, _⟩ := blk3 H6
    go_wp2_with fail
    clear y00 y01 y02 y10 y11 y12 y20 y21 y22 y30 y31 y32 y40 y41 y42 y50 y51 y52 y60 y61 y62
    refine (R2 W13).mono ?_
    rintro e W14 ⟨rfl, hb⟩
    replace H0 := below_at hb H0
    replace H1 := below_at hb H1
    replace H2 := below_at hb H2
    replace H3 := below_at hb H3
    replace H4 := below_at hb H4
    replace H5 := below_at hb H5
    replace H6 := below_at hb H6
    replace B0 := B0.trans (hb.mono B0.size)
    clear hb
    obtain ⟨⟨y00, y01, y02⟩, _⟩ := blk3 H0
    obtain ⟨⟨y10, y11, y12⟩, _⟩ := blk3 H1
    obtain ⟨⟨y20, y21, y22⟩, _⟩ := blk3 H2
    obtain ⟨⟨y30, y31, y32⟩, _⟩ := blk3 H3
    obtain ⟨⟨y40, y41, y42⟩, _⟩ := blk3 H4
    obtain ⟨⟨y50, y51, y52⟩, _⟩ := blk3 H5
    obtain ⟨⟨y60, y61, y62⟩, _⟩ := blk3 H6
    go_wp2_with fail
    clear y00 y01 y02 y10 y11 y12 y20 y21 y22 y30 y31 y32 y40 y41 y42 y50 y51 y52 y60 y61 y62
    refine (R5 W14).mono ?_
    rintro e W15 ⟨rfl, hb⟩
    replace H0 := below_at hb H0
    replace H1 := below_at hb H1
    replace H2 := below_at hb H2
    replace H3 := below_at hb H3
    replace H4 := below_at hb H4
    replace H5 := below_at hb H5
    replace H6 := below_at hb H6
    replace B0 := B0.trans (hb.mono B0.size)
    clear hb
    obtain ⟨⟨y00, y01, y02⟩, _⟩ := blk3 H0
    obtain ⟨⟨y10, y11, y12⟩, _⟩ := blk3 H1
    obtain ⟨⟨y20, y21, y22⟩, _⟩ := blk3 H2
    obtain ⟨⟨y30, y31, y32⟩, _⟩ := blk3 H3
    obtain ⟨⟨y40, y41, y42⟩, _⟩ := blk3 H4
    obtain ⟨⟨y50, y51, y52⟩, _⟩ := blk3 H5
    obtain ⟨⟨y60, y61, y62⟩, _⟩ := blk3 H6
    go_wp2_with fail
    clear y00 y01 y02 y10 y11 y12 y20 y21 y22 y30 y31 y32 y40 y41 y42 y50 y51 y52 y60 y61 y62
    refine (R4 W15).mono ?_
    rintro e W16 ⟨rfl, hb⟩
    replace H0 := below_at hb H0
    replace H1 := below_at hb H1
    replace H2 := below_at hb H2
    replace H3 := below_at hb H3
    replace H4 := below_at hb H4
    replace H5 := below_at hb H5
    replace H6 := below_at hb H6
    replace B0 := B0.trans (hb.mono B0.size)
    clear hb
    obtain ⟨⟨y00, y01, y02⟩, _⟩ := blk3 H0
    obtain ⟨⟨y10, y11, y12⟩, _⟩ := blk3 H1
    obtain ⟨⟨y20, y21, y22⟩, _⟩ := blk3 H2
    obtain ⟨⟨y30, y31, y32⟩, _⟩ := blk3 H3
    obtain ⟨⟨y40, y41, y42⟩, _⟩ := blk3 H4
    obtain ⟨⟨y50, y51, y52⟩, _⟩ := blk3 H5
    obtain ⟨⟨y60, y61, y62⟩, _⟩ := blk3 H6
    go_wp2_with fail
    clear y00 y01 y02 y10 y11 y12 y20 y21 y22 y30 y31 y32 y40 y41 y42 y50 y51 y52 y60 y61 y62
    refine (R6 W16).mono ?_
    rintro e W17 ⟨rfl, hb⟩
    replace H0 := below_at hb H0
    replace H1 := below_at hb H1
    replace H2 := below_at hb H2
    replace H3 := below_at hb H3
    replace H4 := below_at hb H4
    replace H5 := below_at hb H5
    replace H6 := below_at hb H6
    replace B0 := B0.trans (hb.mono B0.size)
    clear hb
    obtain ⟨⟨y00, y01, y02⟩, _⟩ := blk3 H0
    obtain ⟨⟨y10, y11, y12⟩, _⟩ := blk3 H1
    obtain ⟨⟨y20, y21, y22⟩, _⟩ := blk3 H2
    obtain ⟨⟨y30, y31, y32⟩, _⟩ := blk3 H3
    obtain ⟨⟨y40, y41, y42⟩, _⟩ := blk3 H4
    obtain ⟨⟨y50, y51, y52⟩, _⟩ := blk3 H5
    obtain ⟨⟨y60, y61, y62⟩, _⟩ := blk3 H6
    cases hn : nan64 x
    all_goals
      rw [hn] at ho
      simp only [if_true, Bool.false_eq_true, if_false] at ho
      go_wp2_with fail
      go_ret
      exact ⟨rfl, B0⟩

set_option maxRecDepth 100000 in
theorem lifted (os : Os) (started : os.Started) (H : Type) (enc : TypeId × Value → H) :
    ReturnsInHanded {} Try.checked os 9 .any (Rows.datumMakeSpec.pre6 enc Try.prog Try.f9 Rows.datumMakeRow.domain false) (Rows.datumMakeSpec.post enc Try.prog Try.f9 false true false false) := by
  refine returnsInHanded_of_change_sized (C := Try.checked) own started (by kernel_rfl) Try.func9
    (ChangeSpec.witness6 (enc := enc) (C := Try.checked) false ⟨#[], #[.int .i64 0, .int .u64 0, .string { data := #[] }], []⟩ 8 (by kernel_rfl) (by kernel_rfl) (by kernel_rfl) (by kernel_rfl)) ?_
  intro W base args ds gs before hval0 hW hcnd hsz0 _
  have hsz : (DataW.weightsEach Try.prog (Try.f9.params.toList ++ Rows.datumMakeSpec.plain.varTypes Try.prog) (ds ++ gs)).all (· ≤ reachBytes) = true := hsz0
  clear hsz0
  have hval : ∀ (j : Nat) t v, Try.f9.params[j]? = some t → args[j]? = some v → Value.okWide Try.prog W .any base t v := hval0
  have hW' := hW
  obtain ⟨p, q, hA0, hV, rfl, hfz, hnd⟩ := hW
  have hA : DataW.TrodAll enc Try.prog W 0 (fun _ => true) true Try.f9.params.toList args.toList ds p := hA0
  rw [Try.params9] at hA hval hsz
  obtain ⟨v0, vs0, d0, ds0, p0, q0, hargs, rfl, rfl, h0, r0⟩ := trodAll_cons hA
  obtain ⟨v1, vs1, d1, ds1, p1, q1, rfl, rfl, rfl, h1, r1⟩ := trodAll_cons r0
  obtain ⟨v2, vs2, d2, ds2, p2, q2, rfl, rfl, rfl, h2, r2⟩ := trodAll_cons r1
  obtain ⟨rfl, rfl, rfl⟩ := trodAll_nil r2
  obtain rfl : args = #[v0, v1, v2] := by cases args; simp_all
  obtain ⟨rfl, rfl⟩ := trodVars_none hV
  have e0 := h0
  have lt0 : ∀ x ∈ p0, x.block < W.heap.size := by obtain ⟨m, hm⟩ := e0; exact DataW.trod_lt m _ _ _ hm
  obtain ⟨a0, rfl, _, _, w0⟩ := open_int Try.underlying2 (hval 0 2 v0 rfl rfl) h0
  have e1 := h1
  have lt1 : ∀ x ∈ p1, x.block < W.heap.size := by obtain ⟨m, hm⟩ := e1; exact DataW.trod_lt m _ _ _ hm
  obtain ⟨a1, rfl, _, _, w1⟩ := open_int Try.underlying41 (hval 1 41 v1 rfl rfl) h1
  have e2 := h2
  have lt2 : ∀ x ∈ p2, x.block < W.heap.size := by obtain ⟨m, hm⟩ := e2; exact DataW.trod_lt m _ _ _ hm
  obtain ⟨s2, rfl, _, _, w2⟩ := Go.ChangeMaps.open_string Try.underlying9 (hval 2 9 v2 rfl rfl) h2
  clear hA0 hval0
  refine (walk a0 a1 s2 W w0 w1 w2).mono fun e W' ⟨he, bel⟩ => ?_
  subst he
  exact ⟨_, rfl, _, _, _, [], _, [], hW', trodAll_mk1 (shut_bool Try.underlying4 _), (trodAll_cons_mk (Below.trod laidOut (by kernel_rfl) (of_decide_eq_true (by kernel_rfl)) e0 bel lt0) (trodAll_cons_mk (Below.trod laidOut (by kernel_rfl) (of_decide_eq_true (by kernel_rfl)) e1 bel lt1) (trodAll_cons_mk (Below.trod laidOut (by kernel_rfl) (of_decide_eq_true (by kernel_rfl)) e2 bel lt2) trodAll_mk0))), rfl, bel.frame _, fun h => by cases h⟩

theorem over : Rows.datumMakeRow.holds Try.pinned (OpenSpec.ofChange Rows.datumMakeSpec) :=
  OpenClaim.holds_of_wide 9 Try.f9 rfl rfl rfl rfl rfl rfl rfl ⟨rfl, rfl, rfl, rfl, rfl⟩ rfl rfl rfl rfl rfl (by kernel_rfl) Try.func9 (by kernel_rfl)
    (of_decide_eq_true (by kernel_rfl)) (by unfold Func.isWrapper; first | (rw [if_pos (by decide +kernel)]; kernel_rfl) | (rw [if_neg (by decide +kernel)]; exact ⟨rfl, rfl⟩))
    (fun os started H enc _ => lifted os started H enc)

theorem proved : Rows.DatumMakeSaid := over
#print axioms proved
end Go.Proofs.Ytndeglamnnipoaa.datumMake
namespace Go.Proofs.Ytndeglamnnipoaa
theorem datumMake_holds : Rows.DatumMakeSaid := datumMake.proved
end Go.Proofs.Ytndeglamnnipoaa
