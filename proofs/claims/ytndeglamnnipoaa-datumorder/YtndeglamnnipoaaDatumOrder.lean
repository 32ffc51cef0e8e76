/-
For any three data: Compare turns, is transitive, and what is the same is alike. No condition.
-/
import Derived.Test.YtndeglamnnipoaaRows
import Derived.Test.YtndeglamnnipoaaFrame
import Derived.Test.YtndeglamnnipoaaOrM
import Derived.WalkKit
import Derived.ProofKit
import Derived.OpenShut
import Derived.ShutString
import Derived.ChangeOld
import Derived.Below
namespace Go.Proofs.Ytndeglamnnipoaa.datumOrder
open Go.ChangeShapes Go.WideShapes Go.ChangeAt Go.RowKit Go.Deep Go.Sort
set_option linter.unusedVariables false
set_option linter.unusedSimpArgs false

set_option maxRecDepth 100000 in
set_option maxHeartbeats 8000000 in
theorem walk (k0 n0 : Int) (s0 : ByteArray) (k1 n1 : Int) (s1 : ByteArray) (k2 n2 : Int) (s2 : ByteArray) (w : World) (g0 : (Lit.int .i64 k0).wf = true) (w0 : (Lit.int .i64 n0).wf = true) (z0 : s0.size ≤ maxLen) (g1 : (Lit.int .i64 k1).wf = true) (w1 : (Lit.int .i64 n1).wf = true) (z1 : s1.size ≤ maxLen) (g2 : (Lit.int .i64 k2).wf = true) (w2 : (Lit.int .i64 n2).wf = true) (z2 : s2.size ≤ maxLen) :
    Calls Try.prog 7 #[.agg #[.int .i64 k0, .int .i64 n0, .string s0], .agg #[.int .i64 k1, .int .i64 n1, .string s1], .agg #[.int .i64 k2, .int .i64 n2, .string s2]] w fun e w' => e = .returned (.bool true) ∧ Below w.heap.size w w' := by
  have hh0 : (((w.alloc (.cells #[.int .i64 k0, .int .i64 n0, .string s0] 29)).alloc (.cells #[.int .i64 k1, .int .i64 n1, .string s1] 29)).alloc (.cells #[.int .i64 k2, .int .i64 n2, .string s2] 29)).heap[w.heap.size]? = some (.cells #[.int .i64 k0, .int .i64 n0, .string s0] 29 (0, 0)) := below_at (alloc_below _ _) (below_at (alloc_below _ _) (heap_new _ _))
  have hh1 : (((w.alloc (.cells #[.int .i64 k0, .int .i64 n0, .string s0] 29)).alloc (.cells #[.int .i64 k1, .int .i64 n1, .string s1] 29)).alloc (.cells #[.int .i64 k2, .int .i64 n2, .string s2] 29)).heap[w.heap.size + 1]? = some (.cells #[.int .i64 k1, .int .i64 n1, .string s1] 29 (0, 0)) := below_at (alloc_below _ _) (heap2_new _ _ _)
  have hh2 : (((w.alloc (.cells #[.int .i64 k0, .int .i64 n0, .string s0] 29)).alloc (.cells #[.int .i64 k1, .int .i64 n1, .string s1] 29)).alloc (.cells #[.int .i64 k2, .int .i64 n2, .string s2] 29)).heap[w.heap.size + 1 + 1]? = some (.cells #[.int .i64 k2, .int .i64 n2, .string s2] 29 (0, 0)) := heap3_new _ _ _ _
  have b0 : Below w.heap.size w (((w.alloc (.cells #[.int .i64 k0, .int .i64 n0, .string s0] 29)).alloc (.cells #[.int .i64 k1, .int .i64 n1, .string s1] 29)).alloc (.cells #[.int .i64 k2, .int .i64 n2, .string s2] 29)) := ((alloc_below _ _).alloc (by simp) _).alloc (by simp; omega) _
  have C1 := fun W => compare_any k0 n0 s0 k1 n1 s1 W
  have C2 := fun W => compare_any k1 n1 s1 k0 n0 s0 W
  have C3 := fun W => compare_any k1 n1 s1 k2 n2 s2 W
  have C4 := fun W => compare_any k0 n0 s0 k2 n2 s2 W
  have C5 := fun W => compare_any k0 n0 s0 k0 n0 s0 W
  have CF := fun W => rfine_any k0 n0 s0 w0 W
  have CN := fun W => nan_any k0 n0 s0 W
  have m1 := cmp_turn k0 n0 s0.data.toList k1 n1 s1.data.toList
  have m2 := @cmp_trans k0 n0 s0.data.toList k1 n1 s1.data.toList k2 n2 s2.data.toList
  have m3 := cmp_self k0 n0 s0
  have m4 := @cmp_zero k0 n0 s0.data.toList k1 n1 s1.data.toList
  have t1 := cmp_three k0 n0 s0.data.toList k1 n1 s1.data.toList
  have t2 := cmp_three k1 n1 s1.data.toList k2 n2 s2.data.toList
  have t3 := cmp_three k0 n0 s0.data.toList k2 n2 s2.data.toList
  rw [m1.1, m1.2] at C2
  rw [m3.1, m3.2] at C5
  clear m1 m3
  generalize cmpN k0 n0 s0.data.toList k1 n1 s1.data.toList = x at *
  generalize cmpB k0 n0 s0.data.toList k1 n1 s1.data.toList = ok at *
  generalize cmpN k1 n1 s1.data.toList k2 n2 s2.data.toList = z at *
  generalize cmpB k1 n1 s1.data.toList k2 n2 s2.data.toList = on at *
  generalize cmpN k0 n0 s0.data.toList k2 n2 s2.data.toList = v at *
  generalize cmpB k0 n0 s0.data.toList k2 n2 s2.data.toList = far at *
  unfold rlB at C5 CN
  generalize fineB k0 n0 s0.size = fi at *
  generalize ((k0 == 4 || k0 == 5) && fi && nanD k0 n0) = na at *
  clear g0 w0 z0 g1 w1 z1 g2 w2 z2
  go_enter Try.func7, Try.ntmps7
  go_wp2_with fail
  generalize (((w.alloc (.cells #[.int .i64 k0, .int .i64 n0, .string s0] 29)).alloc (.cells #[.int .i64 k1, .int .i64 n1, .string s1] 29)).alloc (.cells #[.int .i64 k2, .int .i64 n2, .string s2] 29)) = W0 at *
  refine (C1 W0).mono ?_
  rintro e W1 ⟨rfl, hb1⟩
  replace hh0 := below_at hb1 hh0
  replace hh1 := below_at hb1 hh1
  replace hh2 := below_at hb1 hh2
  replace b0 := b0.trans (hb1.mono b0.size)
  clear hb1 C1
  obtain ⟨⟨x00, x01, x02⟩, _⟩ := blk3 hh0
  obtain ⟨⟨x10, x11, x12⟩, _⟩ := blk3 hh1
  obtain ⟨⟨x20, x21, x22⟩, _⟩ := blk3 hh2
  go_wp2_with fail
  clear x00
  clear x01
  clear x02
  clear x10
  clear x11
  clear x12
  clear x20
  clear x21
  clear x22
  refine (C2 W1).mono ?_
  rintro e W2 ⟨rfl, hb2⟩
  replace hh0 := below_at hb2 hh0
  replace hh1 := below_at hb2 hh1
  replace hh2 := below_at hb2 hh2
  replace b0 := b0.trans (hb2.mono b0.size)
  clear hb2 C2
  obtain ⟨⟨x00, x01, x02⟩, _⟩ := blk3 hh0
  obtain ⟨⟨x10, x11, x12⟩, _⟩ := blk3 hh1
  obtain ⟨⟨x20, x21, x22⟩, _⟩ := blk3 hh2
  go_wp2_with fail
  clear x00
  clear x01
  clear x02
  clear x10
  clear x11
  clear x12
  clear x20
  clear x21
  clear x22
  refine (C3 W2).mono ?_
  rintro e W3 ⟨rfl, hb3⟩
  replace hh0 := below_at hb3 hh0
  replace hh1 := below_at hb3 hh1
  replace hh2 := below_at hb3 hh2
  replace b0 := b0.trans (hb3.mono b0.size)
  clear hb3 C3
  obtain ⟨⟨x00, x01, x02⟩, _⟩ := blk3 hh0
  obtain ⟨⟨x10, x11, x12⟩, _⟩ := blk3 hh1
  obtain ⟨⟨x20, x21, x22⟩, _⟩ := blk3 hh2
  go_wp2_with fail
  clear x00
  clear x01
  clear x02
  clear x10
  clear x11
  clear x12
  clear x20
  clear x21
  clear x22
  refine (C4 W3).mono ?_
  rintro e W4 ⟨rfl, hb4⟩
  replace hh0 := below_at hb4 hh0
  replace hh1 := below_at hb4 hh1
  replace hh2 := below_at hb4 hh2
  replace b0 := b0.trans (hb4.mono b0.size)
  clear hb4 C4
  obtain ⟨⟨x00, x01, x02⟩, _⟩ := blk3 hh0
  obtain ⟨⟨x10, x11, x12⟩, _⟩ := blk3 hh1
  obtain ⟨⟨x20, x21, x22⟩, _⟩ := blk3 hh2
  cases ok
  · obtain rfl : x = 0 := m4 rfl
    clear m2 m4 t1 t2 t3
    go_wp2_with fail
    refine (C5 W4).mono ?_
    rintro e W5 ⟨rfl, hb5⟩
    replace hh0 := below_at hb5 hh0
    replace b0 := b0.trans (hb5.mono b0.size)
    clear hb5 C5 x00 x01 x02 x10 x11 x12 x20 x21 x22 hh1 hh2
    obtain ⟨⟨x00, x01, x02⟩, _⟩ := blk3 hh0
    cases fi
    · go_wp2_with fail
      refine (CF _).mono ?_
      rintro e W6 ⟨rfl, hb5⟩
      replace hh0 := below_at hb5 hh0
      replace b0 := b0.trans (hb5.mono b0.size)
      clear hb5 x00 x01 x02
      obtain ⟨⟨x00, x01, x02⟩, _⟩ := blk3 hh0
      go_wp2_with fail
      go_ret
      exact ⟨rfl, b0⟩
    · cases na
      · go_wp2_with fail
        refine (CF _).mono ?_
        rintro e W6 ⟨rfl, hb5⟩
        replace hh0 := below_at hb5 hh0
        replace b0 := b0.trans (hb5.mono b0.size)
        clear hb5 x00 x01 x02
        obtain ⟨⟨x00, x01, x02⟩, _⟩ := blk3 hh0
        go_wp2_with fail
        refine (CF _).mono ?_
        rintro e W7 ⟨rfl, hb5⟩
        replace hh0 := below_at hb5 hh0
        replace b0 := b0.trans (hb5.mono b0.size)
        clear hb5 x00 x01 x02
        obtain ⟨⟨x00, x01, x02⟩, _⟩ := blk3 hh0
        go_wp2_with fail
        refine (CN _).mono ?_
        rintro e W8 ⟨rfl, hb5⟩
        replace hh0 := below_at hb5 hh0
        replace b0 := b0.trans (hb5.mono b0.size)
        clear hb5 x00 x01 x02
        obtain ⟨⟨x00, x01, x02⟩, _⟩ := blk3 hh0
        go_wp2_with fail
        go_ret
        exact ⟨rfl, b0⟩
      · go_wp2_with fail
        refine (CF _).mono ?_
        rintro e W6 ⟨rfl, hb5⟩
        replace hh0 := below_at hb5 hh0
        replace b0 := b0.trans (hb5.mono b0.size)
        clear hb5 x00 x01 x02
        obtain ⟨⟨x00, x01, x02⟩, _⟩ := blk3 hh0
        go_wp2_with fail
        refine (CN _).mono ?_
        rintro e W7 ⟨rfl, hb5⟩
        replace hh0 := below_at hb5 hh0
        replace b0 := b0.trans (hb5.mono b0.size)
        clear hb5 x00 x01 x02
        obtain ⟨⟨x00, x01, x02⟩, _⟩ := blk3 hh0
        go_wp2_with fail
        go_ret
        exact ⟨rfl, b0⟩
  clear m4
  cases on
  · clear m2 t2 t3
    rcases t1 with rfl | rfl | rfl
    · skip
      go_wp2_with fail
      refine (C5 W4).mono ?_
      rintro e W5 ⟨rfl, hb5⟩
      replace hh0 := below_at hb5 hh0
      replace b0 := b0.trans (hb5.mono b0.size)
      clear hb5 C5 x00 x01 x02 x10 x11 x12 x20 x21 x22 hh1 hh2
      obtain ⟨⟨x00, x01, x02⟩, _⟩ := blk3 hh0
      cases fi
      · go_wp2_with fail
        refine (CF _).mono ?_
        rintro e W6 ⟨rfl, hb5⟩
        replace hh0 := below_at hb5 hh0
        replace b0 := b0.trans (hb5.mono b0.size)
        clear hb5 x00 x01 x02
        obtain ⟨⟨x00, x01, x02⟩, _⟩ := blk3 hh0
        go_wp2_with fail
        go_ret
        exact ⟨rfl, b0⟩
      · cases na
        · go_wp2_with fail
          refine (CF _).mono ?_
          rintro e W6 ⟨rfl, hb5⟩
          replace hh0 := below_at hb5 hh0
          replace b0 := b0.trans (hb5.mono b0.size)
          clear hb5 x00 x01 x02
          obtain ⟨⟨x00, x01, x02⟩, _⟩ := blk3 hh0
          go_wp2_with fail
          refine (CF _).mono ?_
          rintro e W7 ⟨rfl, hb5⟩
          replace hh0 := below_at hb5 hh0
          replace b0 := b0.trans (hb5.mono b0.size)
          clear hb5 x00 x01 x02
          obtain ⟨⟨x00, x01, x02⟩, _⟩ := blk3 hh0
          go_wp2_with fail
          refine (CN _).mono ?_
          rintro e W8 ⟨rfl, hb5⟩
          replace hh0 := below_at hb5 hh0
          replace b0 := b0.trans (hb5.mono b0.size)
          clear hb5 x00 x01 x02
          obtain ⟨⟨x00, x01, x02⟩, _⟩ := blk3 hh0
          go_wp2_with fail
          go_ret
          exact ⟨rfl, b0⟩
        · go_wp2_with fail
          refine (CF _).mono ?_
          rintro e W6 ⟨rfl, hb5⟩
          replace hh0 := below_at hb5 hh0
          replace b0 := b0.trans (hb5.mono b0.size)
          clear hb5 x00 x01 x02
          obtain ⟨⟨x00, x01, x02⟩, _⟩ := blk3 hh0
          go_wp2_with fail
          refine (CN _).mono ?_
          rintro e W7 ⟨rfl, hb5⟩
          replace hh0 := below_at hb5 hh0
          replace b0 := b0.trans (hb5.mono b0.size)
          clear hb5 x00 x01 x02
          obtain ⟨⟨x00, x01, x02⟩, _⟩ := blk3 hh0
          go_wp2_with fail
          go_ret
          exact ⟨rfl, b0⟩
    · skip
      go_wp2_with fail
      refine (C5 W4).mono ?_
      rintro e W5 ⟨rfl, hb5⟩
      replace hh0 := below_at hb5 hh0
      replace b0 := b0.trans (hb5.mono b0.size)
      clear hb5 C5 x00 x01 x02 x10 x11 x12 x20 x21 x22 hh1 hh2
      obtain ⟨⟨x00, x01, x02⟩, _⟩ := blk3 hh0
      cases fi
      · go_wp2_with fail
        refine (CF _).mono ?_
        rintro e W6 ⟨rfl, hb5⟩
        replace hh0 := below_at hb5 hh0
        replace b0 := b0.trans (hb5.mono b0.size)
        clear hb5 x00 x01 x02
        obtain ⟨⟨x00, x01, x02⟩, _⟩ := blk3 hh0
        go_wp2_with fail
        go_ret
        exact ⟨rfl, b0⟩
      · cases na
        · go_wp2_with fail
          refine (CF _).mono ?_
          rintro e W6 ⟨rfl, hb5⟩
          replace hh0 := below_at hb5 hh0
          replace b0 := b0.trans (hb5.mono b0.size)
          clear hb5 x00 x01 x02
          obtain ⟨⟨x00, x01, x02⟩, _⟩ := blk3 hh0
          go_wp2_with fail
          refine (CF _).mono ?_
          rintro e W7 ⟨rfl, hb5⟩
          replace hh0 := below_at hb5 hh0
          replace b0 := b0.trans (hb5.mono b0.size)
          clear hb5 x00 x01 x02
          obtain ⟨⟨x00, x01, x02⟩, _⟩ := blk3 hh0
          go_wp2_with fail
          refine (CN _).mono ?_
          rintro e W8 ⟨rfl, hb5⟩
          replace hh0 := below_at hb5 hh0
          replace b0 := b0.trans (hb5.mono b0.size)
          clear hb5 x00 x01 x02
          obtain ⟨⟨x00, x01, x02⟩, _⟩ := blk3 hh0
          go_wp2_with fail
          go_ret
          exact ⟨rfl, b0⟩
        · go_wp2_with fail
          refine (CF _).mono ?_
          rintro e W6 ⟨rfl, hb5⟩
          replace hh0 := below_at hb5 hh0
          replace b0 := b0.trans (hb5.mono b0.size)
          clear hb5 x00 x01 x02
          obtain ⟨⟨x00, x01, x02⟩, _⟩ := blk3 hh0
          go_wp2_with fail
          refine (CN _).mono ?_
          rintro e W7 ⟨rfl, hb5⟩
          replace hh0 := below_at hb5 hh0
          replace b0 := b0.trans (hb5.mono b0.size)
          clear hb5 x00 x01 x02
          obtain ⟨⟨x00, x01, x02⟩, _⟩ := blk3 hh0
          go_wp2_with fail
          go_ret
          exact ⟨rfl, b0⟩
    · skip
      go_wp2_with fail
      refine (C5 W4).mono ?_
      rintro e W5 ⟨rfl, hb5⟩
      replace hh0 := below_at hb5 hh0
      replace b0 := b0.trans (hb5.mono b0.size)
      clear hb5 C5 x00 x01 x02 x10 x11 x12 x20 x21 x22 hh1 hh2
      obtain ⟨⟨x00, x01, x02⟩, _⟩ := blk3 hh0
      cases fi
      · go_wp2_with fail
        refine (CF _).mono ?_
        rintro e W6 ⟨rfl, hb5⟩
        replace hh0 := below_at hb5 hh0
        replace b0 := b0.trans (hb5.mono b0.size)
        clear hb5 x00 x01 x02
        obtain ⟨⟨x00, x01, x02⟩, _⟩ := blk3 hh0
        go_wp2_with fail
        go_ret
        exact ⟨rfl, b0⟩
      · cases na
        · go_wp2_with fail
          refine (CF _).mono ?_
          rintro e W6 ⟨rfl, hb5⟩
          replace hh0 := below_at hb5 hh0
          replace b0 := b0.trans (hb5.mono b0.size)
          clear hb5 x00 x01 x02
          obtain ⟨⟨x00, x01, x02⟩, _⟩ := blk3 hh0
          go_wp2_with fail
          refine (CF _).mono ?_
          rintro e W7 ⟨rfl, hb5⟩
          replace hh0 := below_at hb5 hh0
          replace b0 := b0.trans (hb5.mono b0.size)
          clear hb5 x00 x01 x02
          obtain ⟨⟨x00, x01, x02⟩, _⟩ := blk3 hh0
          go_wp2_with fail
          refine (CN _).mono ?_
          rintro e W8 ⟨rfl, hb5⟩
          replace hh0 := below_at hb5 hh0
          replace b0 := b0.trans (hb5.mono b0.size)
          clear hb5 x00 x01 x02
          obtain ⟨⟨x00, x01, x02⟩, _⟩ := blk3 hh0
          go_wp2_with fail
          go_ret
          exact ⟨rfl, b0⟩
        · go_wp2_with fail
          refine (CF _).mono ?_
          rintro e W6 ⟨rfl, hb5⟩
          replace hh0 := below_at hb5 hh0
          replace b0 := b0.trans (hb5.mono b0.size)
          clear hb5 x00 x01 x02
          obtain ⟨⟨x00, x01, x02⟩, _⟩ := blk3 hh0
          go_wp2_with fail
          refine (CN _).mono ?_
          rintro e W7 ⟨rfl, hb5⟩
          replace hh0 := below_at hb5 hh0
          replace b0 := b0.trans (hb5.mono b0.size)
          clear hb5 x00 x01 x02
          obtain ⟨⟨x00, x01, x02⟩, _⟩ := blk3 hh0
          go_wp2_with fail
          go_ret
          exact ⟨rfl, b0⟩
  obtain ⟨hf, m2⟩ := m2 rfl rfl
  subst hf
  rcases t1 with rfl | rfl | rfl
  · rcases t2 with rfl | rfl | rfl
    · have e : v = -1 := by have h := m2 (by decide) (by decide); rcases t3 with h3 | h3 | h3 <;> first | exact h3 | exact .inl h3 | exact .inr h3 | (exfalso; have h1 := h.1; omega) | (exfalso; have h1 := h.2 (by decide); omega)
      subst e
      clear m2 t3
      go_wp2_with fail
      refine (C5 W4).mono ?_
      rintro e W5 ⟨rfl, hb5⟩
      replace hh0 := below_at hb5 hh0
      replace b0 := b0.trans (hb5.mono b0.size)
      clear hb5 C5 x00 x01 x02 x10 x11 x12 x20 x21 x22 hh1 hh2
      obtain ⟨⟨x00, x01, x02⟩, _⟩ := blk3 hh0
      cases fi
      · go_wp2_with fail
        refine (CF _).mono ?_
        rintro e W6 ⟨rfl, hb5⟩
        replace hh0 := below_at hb5 hh0
        replace b0 := b0.trans (hb5.mono b0.size)
        clear hb5 x00 x01 x02
        obtain ⟨⟨x00, x01, x02⟩, _⟩ := blk3 hh0
        go_wp2_with fail
        go_ret
        exact ⟨rfl, b0⟩
      · cases na
        · go_wp2_with fail
          refine (CF _).mono ?_
          rintro e W6 ⟨rfl, hb5⟩
          replace hh0 := below_at hb5 hh0
          replace b0 := b0.trans (hb5.mono b0.size)
          clear hb5 x00 x01 x02
          obtain ⟨⟨x00, x01, x02⟩, _⟩ := blk3 hh0
          go_wp2_with fail
          refine (CF _).mono ?_
          rintro e W7 ⟨rfl, hb5⟩
          replace hh0 := below_at hb5 hh0
          replace b0 := b0.trans (hb5.mono b0.size)
          clear hb5 x00 x01 x02
          obtain ⟨⟨x00, x01, x02⟩, _⟩ := blk3 hh0
          go_wp2_with fail
          refine (CN _).mono ?_
          rintro e W8 ⟨rfl, hb5⟩
          replace hh0 := below_at hb5 hh0
          replace b0 := b0.trans (hb5.mono b0.size)
          clear hb5 x00 x01 x02
          obtain ⟨⟨x00, x01, x02⟩, _⟩ := blk3 hh0
          go_wp2_with fail
          go_ret
          exact ⟨rfl, b0⟩
        · go_wp2_with fail
          refine (CF _).mono ?_
          rintro e W6 ⟨rfl, hb5⟩
          replace hh0 := below_at hb5 hh0
          replace b0 := b0.trans (hb5.mono b0.size)
          clear hb5 x00 x01 x02
          obtain ⟨⟨x00, x01, x02⟩, _⟩ := blk3 hh0
          go_wp2_with fail
          refine (CN _).mono ?_
          rintro e W7 ⟨rfl, hb5⟩
          replace hh0 := below_at hb5 hh0
          replace b0 := b0.trans (hb5.mono b0.size)
          clear hb5 x00 x01 x02
          obtain ⟨⟨x00, x01, x02⟩, _⟩ := blk3 hh0
          go_wp2_with fail
          go_ret
          exact ⟨rfl, b0⟩
    · have e : v = -1 := by have h := m2 (by decide) (by decide); rcases t3 with h3 | h3 | h3 <;> first | exact h3 | exact .inl h3 | exact .inr h3 | (exfalso; have h1 := h.1; omega) | (exfalso; have h1 := h.2 (by decide); omega)
      subst e
      clear m2 t3
      go_wp2_with fail
      refine (C5 W4).mono ?_
      rintro e W5 ⟨rfl, hb5⟩
      replace hh0 := below_at hb5 hh0
      replace b0 := b0.trans (hb5.mono b0.size)
      clear hb5 C5 x00 x01 x02 x10 x11 x12 x20 x21 x22 hh1 hh2
      obtain ⟨⟨x00, x01, x02⟩, _⟩ := blk3 hh0
      cases fi
      · go_wp2_with fail
        refine (CF _).mono ?_
        rintro e W6 ⟨rfl, hb5⟩
        replace hh0 := below_at hb5 hh0
        replace b0 := b0.trans (hb5.mono b0.size)
        clear hb5 x00 x01 x02
        obtain ⟨⟨x00, x01, x02⟩, _⟩ := blk3 hh0
        go_wp2_with fail
        go_ret
        exact ⟨rfl, b0⟩
      · cases na
        · go_wp2_with fail
          refine (CF _).mono ?_
          rintro e W6 ⟨rfl, hb5⟩
          replace hh0 := below_at hb5 hh0
          replace b0 := b0.trans (hb5.mono b0.size)
          clear hb5 x00 x01 x02
          obtain ⟨⟨x00, x01, x02⟩, _⟩ := blk3 hh0
          go_wp2_with fail
          refine (CF _).mono ?_
          rintro e W7 ⟨rfl, hb5⟩
          replace hh0 := below_at hb5 hh0
          replace b0 := b0.trans (hb5.mono b0.size)
          clear hb5 x00 x01 x02
          obtain ⟨⟨x00, x01, x02⟩, _⟩ := blk3 hh0
          go_wp2_with fail
          refine (CN _).mono ?_
          rintro e W8 ⟨rfl, hb5⟩
          replace hh0 := below_at hb5 hh0
          replace b0 := b0.trans (hb5.mono b0.size)
          clear hb5 x00 x01 x02
          obtain ⟨⟨x00, x01, x02⟩, _⟩ := blk3 hh0
          go_wp2_with fail
          go_ret
          exact ⟨rfl, b0⟩
        · go_wp2_with fail
          refine (CF _).mono ?_
          rintro e W6 ⟨rfl, hb5⟩
          replace hh0 := below_at hb5 hh0
          replace b0 := b0.trans (hb5.mono b0.size)
          clear hb5 x00 x01 x02
          obtain ⟨⟨x00, x01, x02⟩, _⟩ := blk3 hh0
          go_wp2_with fail
          refine (CN _).mono ?_
          rintro e W7 ⟨rfl, hb5⟩
          replace hh0 := below_at hb5 hh0
          replace b0 := b0.trans (hb5.mono b0.size)
          clear hb5 x00 x01 x02
          obtain ⟨⟨x00, x01, x02⟩, _⟩ := blk3 hh0
          go_wp2_with fail
          go_ret
          exact ⟨rfl, b0⟩
    · clear m2 t3
      go_wp2_with fail
      refine (C5 W4).mono ?_
      rintro e W5 ⟨rfl, hb5⟩
      replace hh0 := below_at hb5 hh0
      replace b0 := b0.trans (hb5.mono b0.size)
      clear hb5 C5 x00 x01 x02 x10 x11 x12 x20 x21 x22 hh1 hh2
      obtain ⟨⟨x00, x01, x02⟩, _⟩ := blk3 hh0
      cases fi
      · go_wp2_with fail
        refine (CF _).mono ?_
        rintro e W6 ⟨rfl, hb5⟩
        replace hh0 := below_at hb5 hh0
        replace b0 := b0.trans (hb5.mono b0.size)
        clear hb5 x00 x01 x02
        obtain ⟨⟨x00, x01, x02⟩, _⟩ := blk3 hh0
        go_wp2_with fail
        go_ret
        exact ⟨rfl, b0⟩
      · cases na
        · go_wp2_with fail
          refine (CF _).mono ?_
          rintro e W6 ⟨rfl, hb5⟩
          replace hh0 := below_at hb5 hh0
          replace b0 := b0.trans (hb5.mono b0.size)
          clear hb5 x00 x01 x02
          obtain ⟨⟨x00, x01, x02⟩, _⟩ := blk3 hh0
          go_wp2_with fail
          refine (CF _).mono ?_
          rintro e W7 ⟨rfl, hb5⟩
          replace hh0 := below_at hb5 hh0
          replace b0 := b0.trans (hb5.mono b0.size)
          clear hb5 x00 x01 x02
          obtain ⟨⟨x00, x01, x02⟩, _⟩ := blk3 hh0
          go_wp2_with fail
          refine (CN _).mono ?_
          rintro e W8 ⟨rfl, hb5⟩
          replace hh0 := below_at hb5 hh0
          replace b0 := b0.trans (hb5.mono b0.size)
          clear hb5 x00 x01 x02
          obtain ⟨⟨x00, x01, x02⟩, _⟩ := blk3 hh0
          go_wp2_with fail
          go_ret
          exact ⟨rfl, b0⟩
        · go_wp2_with fail
          refine (CF _).mono ?_
          rintro e W6 ⟨rfl, hb5⟩
          replace hh0 := below_at hb5 hh0
          replace b0 := b0.trans (hb5.mono b0.size)
          clear hb5 x00 x01 x02
          obtain ⟨⟨x00, x01, x02⟩, _⟩ := blk3 hh0
          go_wp2_with fail
          refine (CN _).mono ?_
          rintro e W7 ⟨rfl, hb5⟩
          replace hh0 := below_at hb5 hh0
          replace b0 := b0.trans (hb5.mono b0.size)
          clear hb5 x00 x01 x02
          obtain ⟨⟨x00, x01, x02⟩, _⟩ := blk3 hh0
          go_wp2_with fail
          go_ret
          exact ⟨rfl, b0⟩
  · rcases t2 with rfl | rfl | rfl
    · have e : v = -1 ∨ v = 0 := by have h := m2 (by decide) (by decide); rcases t3 with h3 | h3 | h3 <;> first | exact h3 | exact .inl h3 | exact .inr h3 | (exfalso; have h1 := h.1; omega) | (exfalso; have h1 := h.2 (by decide); omega)
      clear m2 t3
      rcases e with rfl | rfl
      · skip
        go_wp2_with fail
        refine (C5 W4).mono ?_
        rintro e W5 ⟨rfl, hb5⟩
        replace hh0 := below_at hb5 hh0
        replace b0 := b0.trans (hb5.mono b0.size)
        clear hb5 C5 x00 x01 x02 x10 x11 x12 x20 x21 x22 hh1 hh2
        obtain ⟨⟨x00, x01, x02⟩, _⟩ := blk3 hh0
        cases fi
        · go_wp2_with fail
          refine (CF _).mono ?_
          rintro e W6 ⟨rfl, hb5⟩
          replace hh0 := below_at hb5 hh0
          replace b0 := b0.trans (hb5.mono b0.size)
          clear hb5 x00 x01 x02
          obtain ⟨⟨x00, x01, x02⟩, _⟩ := blk3 hh0
          go_wp2_with fail
          go_ret
          exact ⟨rfl, b0⟩
        · cases na
          · go_wp2_with fail
            refine (CF _).mono ?_
            rintro e W6 ⟨rfl, hb5⟩
            replace hh0 := below_at hb5 hh0
            replace b0 := b0.trans (hb5.mono b0.size)
            clear hb5 x00 x01 x02
            obtain ⟨⟨x00, x01, x02⟩, _⟩ := blk3 hh0
            go_wp2_with fail
            refine (CF _).mono ?_
            rintro e W7 ⟨rfl, hb5⟩
            replace hh0 := below_at hb5 hh0
            replace b0 := b0.trans (hb5.mono b0.size)
            clear hb5 x00 x01 x02
            obtain ⟨⟨x00, x01, x02⟩, _⟩ := blk3 hh0
            go_wp2_with fail
            refine (CN _).mono ?_
            rintro e W8 ⟨rfl, hb5⟩
            replace hh0 := below_at hb5 hh0
            replace b0 := b0.trans (hb5.mono b0.size)
            clear hb5 x00 x01 x02
            obtain ⟨⟨x00, x01, x02⟩, _⟩ := blk3 hh0
            go_wp2_with fail
            go_ret
            exact ⟨rfl, b0⟩
          · go_wp2_with fail
            refine (CF _).mono ?_
            rintro e W6 ⟨rfl, hb5⟩
            replace hh0 := below_at hb5 hh0
            replace b0 := b0.trans (hb5.mono b0.size)
            clear hb5 x00 x01 x02
            obtain ⟨⟨x00, x01, x02⟩, _⟩ := blk3 hh0
            go_wp2_with fail
            refine (CN _).mono ?_
            rintro e W7 ⟨rfl, hb5⟩
            replace hh0 := below_at hb5 hh0
            replace b0 := b0.trans (hb5.mono b0.size)
            clear hb5 x00 x01 x02
            obtain ⟨⟨x00, x01, x02⟩, _⟩ := blk3 hh0
            go_wp2_with fail
            go_ret
            exact ⟨rfl, b0⟩
      · skip
        go_wp2_with fail
        refine (C5 W4).mono ?_
        rintro e W5 ⟨rfl, hb5⟩
        replace hh0 := below_at hb5 hh0
        replace b0 := b0.trans (hb5.mono b0.size)
        clear hb5 C5 x00 x01 x02 x10 x11 x12 x20 x21 x22 hh1 hh2
        obtain ⟨⟨x00, x01, x02⟩, _⟩ := blk3 hh0
        cases fi
        · go_wp2_with fail
          refine (CF _).mono ?_
          rintro e W6 ⟨rfl, hb5⟩
          replace hh0 := below_at hb5 hh0
          replace b0 := b0.trans (hb5.mono b0.size)
          clear hb5 x00 x01 x02
          obtain ⟨⟨x00, x01, x02⟩, _⟩ := blk3 hh0
          go_wp2_with fail
          go_ret
          exact ⟨rfl, b0⟩
        · cases na
          · go_wp2_with fail
            refine (CF _).mono ?_
            rintro e W6 ⟨rfl, hb5⟩
            replace hh0 := below_at hb5 hh0
            replace b0 := b0.trans (hb5.mono b0.size)
            clear hb5 x00 x01 x02
            obtain ⟨⟨x00, x01, x02⟩, _⟩ := blk3 hh0
            go_wp2_with fail
            refine (CF _).mono ?_
            rintro e W7 ⟨rfl, hb5⟩
            replace hh0 := below_at hb5 hh0
            replace b0 := b0.trans (hb5.mono b0.size)
            clear hb5 x00 x01 x02
            obtain ⟨⟨x00, x01, x02⟩, _⟩ := blk3 hh0
            go_wp2_with fail
            refine (CN _).mono ?_
            rintro e W8 ⟨rfl, hb5⟩
            replace hh0 := below_at hb5 hh0
            replace b0 := b0.trans (hb5.mono b0.size)
            clear hb5 x00 x01 x02
            obtain ⟨⟨x00, x01, x02⟩, _⟩ := blk3 hh0
            go_wp2_with fail
            go_ret
            exact ⟨rfl, b0⟩
          · go_wp2_with fail
            refine (CF _).mono ?_
            rintro e W6 ⟨rfl, hb5⟩
            replace hh0 := below_at hb5 hh0
            replace b0 := b0.trans (hb5.mono b0.size)
            clear hb5 x00 x01 x02
            obtain ⟨⟨x00, x01, x02⟩, _⟩ := blk3 hh0
            go_wp2_with fail
            refine (CN _).mono ?_
            rintro e W7 ⟨rfl, hb5⟩
            replace hh0 := below_at hb5 hh0
            replace b0 := b0.trans (hb5.mono b0.size)
            clear hb5 x00 x01 x02
            obtain ⟨⟨x00, x01, x02⟩, _⟩ := blk3 hh0
            go_wp2_with fail
            go_ret
            exact ⟨rfl, b0⟩
    · have e : v = -1 ∨ v = 0 := by have h := m2 (by decide) (by decide); rcases t3 with h3 | h3 | h3 <;> first | exact h3 | exact .inl h3 | exact .inr h3 | (exfalso; have h1 := h.1; omega) | (exfalso; have h1 := h.2 (by decide); omega)
      clear m2 t3
      rcases e with rfl | rfl
      · skip
        go_wp2_with fail
        refine (C5 W4).mono ?_
        rintro e W5 ⟨rfl, hb5⟩
        replace hh0 := below_at hb5 hh0
        replace b0 := b0.trans (hb5.mono b0.size)
        clear hb5 C5 x00 x01 x02 x10 x11 x12 x20 x21 x22 hh1 hh2
        obtain ⟨⟨x00, x01, x02⟩, _⟩ := blk3 hh0
        cases fi
        · go_wp2_with fail
          refine (CF _).mono ?_
          rintro e W6 ⟨rfl, hb5⟩
          replace hh0 := below_at hb5 hh0
          replace b0 := b0.trans (hb5.mono b0.size)
          clear hb5 x00 x01 x02
          obtain ⟨⟨x00, x01, x02⟩, _⟩ := blk3 hh0
          go_wp2_with fail
          go_ret
          exact ⟨rfl, b0⟩
        · cases na
          · go_wp2_with fail
            refine (CF _).mono ?_
            rintro e W6 ⟨rfl, hb5⟩
            replace hh0 := below_at hb5 hh0
            replace b0 := b0.trans (hb5.mono b0.size)
            clear hb5 x00 x01 x02
            obtain ⟨⟨x00, x01, x02⟩, _⟩ := blk3 hh0
            go_wp2_with fail
            refine (CF _).mono ?_
            rintro e W7 ⟨rfl, hb5⟩
            replace hh0 := below_at hb5 hh0
            replace b0 := b0.trans (hb5.mono b0.size)
            clear hb5 x00 x01 x02
            obtain ⟨⟨x00, x01, x02⟩, _⟩ := blk3 hh0
            go_wp2_with fail
            refine (CN _).mono ?_
            rintro e W8 ⟨rfl, hb5⟩
            replace hh0 := below_at hb5 hh0
            replace b0 := b0.trans (hb5.mono b0.size)
            clear hb5 x00 x01 x02
            obtain ⟨⟨x00, x01, x02⟩, _⟩ := blk3 hh0
            go_wp2_with fail
            go_ret
            exact ⟨rfl, b0⟩
          · go_wp2_with fail
            refine (CF _).mono ?_
            rintro e W6 ⟨rfl, hb5⟩
            replace hh0 := below_at hb5 hh0
            replace b0 := b0.trans (hb5.mono b0.size)
            clear hb5 x00 x01 x02
            obtain ⟨⟨x00, x01, x02⟩, _⟩ := blk3 hh0
            go_wp2_with fail
            refine (CN _).mono ?_
            rintro e W7 ⟨rfl, hb5⟩
            replace hh0 := below_at hb5 hh0
            replace b0 := b0.trans (hb5.mono b0.size)
            clear hb5 x00 x01 x02
            obtain ⟨⟨x00, x01, x02⟩, _⟩ := blk3 hh0
            go_wp2_with fail
            go_ret
            exact ⟨rfl, b0⟩
      · skip
        go_wp2_with fail
        refine (C5 W4).mono ?_
        rintro e W5 ⟨rfl, hb5⟩
        replace hh0 := below_at hb5 hh0
        replace b0 := b0.trans (hb5.mono b0.size)
        clear hb5 C5 x00 x01 x02 x10 x11 x12 x20 x21 x22 hh1 hh2
        obtain ⟨⟨x00, x01, x02⟩, _⟩ := blk3 hh0
        cases fi
        · go_wp2_with fail
          refine (CF _).mono ?_
          rintro e W6 ⟨rfl, hb5⟩
          replace hh0 := below_at hb5 hh0
          replace b0 := b0.trans (hb5.mono b0.size)
          clear hb5 x00 x01 x02
          obtain ⟨⟨x00, x01, x02⟩, _⟩ := blk3 hh0
          go_wp2_with fail
          go_ret
          exact ⟨rfl, b0⟩
        · cases na
          · go_wp2_with fail
            refine (CF _).mono ?_
            rintro e W6 ⟨rfl, hb5⟩
            replace hh0 := below_at hb5 hh0
            replace b0 := b0.trans (hb5.mono b0.size)
            clear hb5 x00 x01 x02
            obtain ⟨⟨x00, x01, x02⟩, _⟩ := blk3 hh0
            go_wp2_with fail
            refine (CF _).mono ?_
            rintro e W7 ⟨rfl, hb5⟩
            replace hh0 := below_at hb5 hh0
            replace b0 := b0.trans (hb5.mono b0.size)
            clear hb5 x00 x01 x02
            obtain ⟨⟨x00, x01, x02⟩, _⟩ := blk3 hh0
            go_wp2_with fail
            refine (CN _).mono ?_
            rintro e W8 ⟨rfl, hb5⟩
            replace hh0 := below_at hb5 hh0
            replace b0 := b0.trans (hb5.mono b0.size)
            clear hb5 x00 x01 x02
            obtain ⟨⟨x00, x01, x02⟩, _⟩ := blk3 hh0
            go_wp2_with fail
            go_ret
            exact ⟨rfl, b0⟩
          · go_wp2_with fail
            refine (CF _).mono ?_
            rintro e W6 ⟨rfl, hb5⟩
            replace hh0 := below_at hb5 hh0
            replace b0 := b0.trans (hb5.mono b0.size)
            clear hb5 x00 x01 x02
            obtain ⟨⟨x00, x01, x02⟩, _⟩ := blk3 hh0
            go_wp2_with fail
            refine (CN _).mono ?_
            rintro e W7 ⟨rfl, hb5⟩
            replace hh0 := below_at hb5 hh0
            replace b0 := b0.trans (hb5.mono b0.size)
            clear hb5 x00 x01 x02
            obtain ⟨⟨x00, x01, x02⟩, _⟩ := blk3 hh0
            go_wp2_with fail
            go_ret
            exact ⟨rfl, b0⟩
    · clear m2 t3
      go_wp2_with fail
      refine (C5 W4).mono ?_
      rintro e W5 ⟨rfl, hb5⟩
      replace hh0 := below_at hb5 hh0
      replace b0 := b0.trans (hb5.mono b0.size)
      clear hb5 C5 x00 x01 x02 x10 x11 x12 x20 x21 x22 hh1 hh2
      obtain ⟨⟨x00, x01, x02⟩, _⟩ := blk3 hh0
      cases fi
      · go_wp2_with fail
        refine (CF _).mono ?_
        rintro e W6 ⟨rfl, hb5⟩
        replace hh0 := below_at hb5 hh0
        replace b0 := b0.trans (hb5.mono b0.size)
        clear hb5 x00 x01 x02
        obtain ⟨⟨x00, x01, x02⟩, _⟩ := blk3 hh0
        go_wp2_with fail
        go_ret
        exact ⟨rfl, b0⟩
      · cases na
        · go_wp2_with fail
          refine (CF _).mono ?_
          rintro e W6 ⟨rfl, hb5⟩
          replace hh0 := below_at hb5 hh0
          replace b0 := b0.trans (hb5.mono b0.size)
          clear hb5 x00 x01 x02
          obtain ⟨⟨x00, x01, x02⟩, _⟩ := blk3 hh0
          go_wp2_with fail
          refine (CF _).mono ?_
          rintro e W7 ⟨rfl, hb5⟩
          replace hh0 := below_at hb5 hh0
          replace b0 := b0.trans (hb5.mono b0.size)
          clear hb5 x00 x01 x02
          obtain ⟨⟨x00, x01, x02⟩, _⟩ := blk3 hh0
          go_wp2_with fail
          refine (CN _).mono ?_
          rintro e W8 ⟨rfl, hb5⟩
          replace hh0 := below_at hb5 hh0
          replace b0 := b0.trans (hb5.mono b0.size)
          clear hb5 x00 x01 x02
          obtain ⟨⟨x00, x01, x02⟩, _⟩ := blk3 hh0
          go_wp2_with fail
          go_ret
          exact ⟨rfl, b0⟩
        · go_wp2_with fail
          refine (CF _).mono ?_
          rintro e W6 ⟨rfl, hb5⟩
          replace hh0 := below_at hb5 hh0
          replace b0 := b0.trans (hb5.mono b0.size)
          clear hb5 x00 x01 x02
          obtain ⟨⟨x00, x01, x02⟩, _⟩ := blk3 hh0
          go_wp2_with fail
          refine (CN _).mono ?_
          rintro e W7 ⟨rfl, hb5⟩
          replace hh0 := below_at hb5 hh0
          replace b0 := b0.trans (hb5.mono b0.size)
          clear hb5 x00 x01 x02
          obtain ⟨⟨x00, x01, x02⟩, _⟩ := blk3 hh0
          go_wp2_with fail
          go_ret
          exact ⟨rfl, b0⟩
  · clear m2 t2 t3
    go_wp2_with fail
    refine (C5 W4).mono ?_
    rintro e W5 ⟨rfl, hb5⟩
    replace hh0 := below_at hb5 hh0
    replace b0 := b0.trans (hb5.mono b0.size)
    clear hb5 C5 x00 x01 x02 x10 x11 x12 x20 x21 x22 hh1 hh2
    obtain ⟨⟨x00, x01, x02⟩, _⟩ := blk3 hh0
    cases fi
    · go_wp2_with fail
      refine (CF _).mono ?_
      rintro e W6 ⟨rfl, hb5⟩
      replace hh0 := below_at hb5 hh0
      replace b0 := b0.trans (hb5.mono b0.size)
      clear hb5 x00 x01 x02
      obtain ⟨⟨x00, x01, x02⟩, _⟩ := blk3 hh0
      go_wp2_with fail
      go_ret
      exact ⟨rfl, b0⟩
    · cases na
      · go_wp2_with fail
        refine (CF _).mono ?_
        rintro e W6 ⟨rfl, hb5⟩
        replace hh0 := below_at hb5 hh0
        replace b0 := b0.trans (hb5.mono b0.size)
        clear hb5 x00 x01 x02
        obtain ⟨⟨x00, x01, x02⟩, _⟩ := blk3 hh0
        go_wp2_with fail
        refine (CF _).mono ?_
        rintro e W7 ⟨rfl, hb5⟩
        replace hh0 := below_at hb5 hh0
        replace b0 := b0.trans (hb5.mono b0.size)
        clear hb5 x00 x01 x02
        obtain ⟨⟨x00, x01, x02⟩, _⟩ := blk3 hh0
        go_wp2_with fail
        refine (CN _).mono ?_
        rintro e W8 ⟨rfl, hb5⟩
        replace hh0 := below_at hb5 hh0
        replace b0 := b0.trans (hb5.mono b0.size)
        clear hb5 x00 x01 x02
        obtain ⟨⟨x00, x01, x02⟩, _⟩ := blk3 hh0
        go_wp2_with fail
        go_ret
        exact ⟨rfl, b0⟩
      · go_wp2_with fail
        refine (CF _).mono ?_
        rintro e W6 ⟨rfl, hb5⟩
        replace hh0 := below_at hb5 hh0
        replace b0 := b0.trans (hb5.mono b0.size)
        clear hb5 x00 x01 x02
        obtain ⟨⟨x00, x01, x02⟩, _⟩ := blk3 hh0
        go_wp2_with fail
        refine (CN _).mono ?_
        rintro e W7 ⟨rfl, hb5⟩
        replace hh0 := below_at hb5 hh0
        replace b0 := b0.trans (hb5.mono b0.size)
        clear hb5 x00 x01 x02
        obtain ⟨⟨x00, x01, x02⟩, _⟩ := blk3 hh0
        go_wp2_with fail
        go_ret
        exact ⟨rfl, b0⟩

set_option maxRecDepth 100000 in
theorem lifted (os : Os) (started : os.Started) (H : Type) (enc : TypeId × Value → H) :
    ReturnsInHanded {} Try.checked os 7 .any (Rows.datumOrderSpec.pre6 enc Try.prog Try.f7 Rows.datumOrderRow.domain false) (Rows.datumOrderSpec.post enc Try.prog Try.f7 false true false false) := by
  refine returnsInHanded_of_change_sized (C := Try.checked) own started (by kernel_rfl) Try.func7
    (ChangeSpec.witness6 (enc := enc) (C := Try.checked) false ⟨#[], #[.agg #[.int .i64 0, .int .i64 0, .string { data := #[] }], .agg #[.int .i64 0, .int .i64 0, .string { data := #[] }], .agg #[.int .i64 0, .int .i64 0, .string { data := #[] }]], []⟩ 8 (by kernel_rfl) (by kernel_rfl) (by kernel_rfl) (by kernel_rfl)) ?_
  intro W base args ds gs before hval0 hW hcnd hsz0 _
  have hsz : (DataW.weightsEach Try.prog (Try.f7.params.toList ++ Rows.datumOrderSpec.plain.varTypes Try.prog) (ds ++ gs)).all (· ≤ reachBytes) = true := hsz0
  clear hsz0
  have hval : ∀ (j : Nat) t v, Try.f7.params[j]? = some t → args[j]? = some v → Value.okWide Try.prog W .any base t v := hval0
  have hW' := hW
  obtain ⟨p, q, hA0, hV, rfl, hfz, hnd⟩ := hW
  have hA : DataW.TrodAll enc Try.prog W 0 (fun _ => true) true Try.f7.params.toList args.toList ds p := hA0
  rw [Try.params7] at hA hval hsz
  obtain ⟨v0, vs0, d0, ds0, p0, q0, hargs, rfl, rfl, h0, r0⟩ := trodAll_cons hA
  obtain ⟨v1, vs1, d1, ds1, p1, q1, rfl, rfl, rfl, h1, r1⟩ := trodAll_cons r0
  obtain ⟨v2, vs2, d2, ds2, p2, q2, rfl, rfl, rfl, h2, r2⟩ := trodAll_cons r1
  obtain ⟨rfl, rfl, rfl⟩ := trodAll_nil r2
  obtain rfl : args = #[v0, v1, v2] := by cases args; simp_all
  obtain ⟨rfl, rfl⟩ := trodVars_none hV
  have e0 := h0
  have lt0 : ∀ x ∈ p0, x.block < W.heap.size := by obtain ⟨m, hm⟩ := e0; exact DataW.trod_lt m _ _ _ hm
  obtain ⟨k0, n0, s0, rfl, g0, w0, z0⟩ := arg_datum (hval 0 29 v0 rfl rfl) h0
  have e1 := h1
  have lt1 : ∀ x ∈ p1, x.block < W.heap.size := by obtain ⟨m, hm⟩ := e1; exact DataW.trod_lt m _ _ _ hm
  obtain ⟨k1, n1, s1, rfl, g1, w1, z1⟩ := arg_datum (hval 1 29 v1 rfl rfl) h1
  have e2 := h2
  have lt2 : ∀ x ∈ p2, x.block < W.heap.size := by obtain ⟨m, hm⟩ := e2; exact DataW.trod_lt m _ _ _ hm
  obtain ⟨k2, n2, s2, rfl, g2, w2, z2⟩ := arg_datum (hval 2 29 v2 rfl rfl) h2
  clear hA0 hval0
  refine (walk k0 n0 s0 k1 n1 s1 k2 n2 s2 W g0 w0 z0 g1 w1 z1 g2 w2 z2).mono fun e W' ⟨he, bel⟩ => ?_
  subst he
  exact ⟨_, rfl, _, _, _, [], _, [], hW', trodAll_mk1 (shut_bool Try.underlying4 _), (trodAll_cons_mk (Below.trod laidOut (by kernel_rfl) (of_decide_eq_true (by kernel_rfl)) e0 bel lt0) (trodAll_cons_mk (Below.trod laidOut (by kernel_rfl) (of_decide_eq_true (by kernel_rfl)) e1 bel lt1) (trodAll_cons_mk (Below.trod laidOut (by kernel_rfl) (of_decide_eq_true (by kernel_rfl)) e2 bel lt2) trodAll_mk0))), rfl, bel.frame _, fun h => by cases h⟩

theorem over : Rows.datumOrderRow.holds Try.pinned (OpenSpec.ofChange Rows.datumOrderSpec) :=
  OpenClaim.holds_of_wide 7 Try.f7 rfl rfl rfl rfl rfl rfl rfl ⟨rfl, rfl, rfl, rfl, rfl⟩ rfl rfl rfl rfl rfl (by kernel_rfl) Try.func7 (by kernel_rfl)
    (of_decide_eq_true (by kernel_rfl)) (by unfold Func.isWrapper; first | (rw [if_pos (by decide +kernel)]; kernel_rfl) | (rw [if_neg (by decide +kernel)]; exact ⟨rfl, rfl⟩))
    (fun os started H enc _ => lifted os started H enc)

theorem proved : Rows.DatumOrderSaid := over
#print axioms proved
end Go.Proofs.Ytndeglamnnipoaa.datumOrder
namespace Go.Proofs.Ytndeglamnnipoaa
theorem datumOrder_holds : Rows.DatumOrderSaid := datumOrder.proved
end Go.Proofs.Ytndeglamnnipoaa
