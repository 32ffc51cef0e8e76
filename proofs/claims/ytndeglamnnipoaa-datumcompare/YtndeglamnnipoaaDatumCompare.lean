/-
For any two data datum.Compare answers as the reference's Compare. No condition.
-/
import Derived.Test.YtndeglamnnipoaaRows
import Derived.Test.YtndeglamnnipoaaFrame
import Derived.Test.YtndeglamnnipoaaCmB
import Derived.WalkKit
import Derived.ProofKit
import Derived.OpenShut
import Derived.ShutString
import Derived.ChangeOld
import Derived.Below
namespace Go.Proofs.Ytndeglamnnipoaa.datumCompare
open Go.ChangeShapes Go.WideShapes Go.ChangeAt Go.RowKit Go.Deep Go.Sort
set_option linter.unusedVariables false
set_option linter.unusedSimpArgs false

set_option maxRecDepth 100000 in
set_option maxHeartbeats 4000000 in
theorem walk (k0 n0 : Int) (s0 : ByteArray) (k1 n1 : Int) (s1 : ByteArray) (w : World) (g0 : (Lit.int .i64 k0).wf = true) (w0 : (Lit.int .i64 n0).wf = true) (z0 : s0.size ≤ maxLen) (g1 : (Lit.int .i64 k1).wf = true) (w1 : (Lit.int .i64 n1).wf = true) (z1 : s1.size ≤ maxLen) :
    Calls Try.prog 6 #[.agg #[.int .i64 k0, .int .i64 n0, .string s0], .agg #[.int .i64 k1, .int .i64 n1, .string s1]] w fun e w' => e = .returned (.bool true) ∧ Below w.heap.size w w' := by
  have hx0 : ((w.alloc (.cells #[.int .i64 k0, .int .i64 n0, .string s0] 29)).alloc (.cells #[.int .i64 k1, .int .i64 n1, .string s1] 29)).heap[w.heap.size]? = some (.cells #[.int .i64 k0, .int .i64 n0, .string s0] 29 (0, 0)) := below_at (alloc_below _ _) (heap_new _ _)
  have hy0 : ((w.alloc (.cells #[.int .i64 k0, .int .i64 n0, .string s0] 29)).alloc (.cells #[.int .i64 k1, .int .i64 n1, .string s1] 29)).heap[w.heap.size + 1]? = some (.cells #[.int .i64 k1, .int .i64 n1, .string s1] 29 (0, 0)) := heap2_new _ _ _
  have b0 : Below w.heap.size w ((w.alloc (.cells #[.int .i64 k0, .int .i64 n0, .string s0] 29)).alloc (.cells #[.int .i64 k1, .int .i64 n1, .string s1] 29)) := (alloc_below _ _).alloc (by simp) _
  have C1 := fun W => compare_any k0 n0 s0 k1 n1 s1 W
  have C2 := fun W => rcompare_any k0 n0 s0 k1 n1 s1 W w0 w1 z0 z1
  generalize cmpN k0 n0 s0.data.toList k1 n1 s1.data.toList = cn at *
  generalize cmpB k0 n0 s0.data.toList k1 n1 s1.data.toList = cb at *
  clear g0 w0 z0 g1 w1 z1
  go_enter Try.func6, Try.ntmps6
  go_wp2_with fail
  generalize ((w.alloc (.cells #[.int .i64 k0, .int .i64 n0, .string s0] 29)).alloc (.cells #[.int .i64 k1, .int .i64 n1, .string s1] 29)) = W0 at *
  refine (C1 W0).mono ?_
  rintro e W1 ⟨rfl, hb1⟩
  have hx1 := below_at hb1 hx0
  have hy1 := below_at hb1 hy0
  have b1 := b0.trans (hb1.mono b0.size)
  clear hx0 hy0 b0 hb1
  obtain ⟨⟨c0, c1, c2⟩, _⟩ := blk3 hx1
  obtain ⟨⟨d0, d1, d2⟩, _⟩ := blk3 hy1
  go_wp2_with fail
  refine (C2 W1).mono ?_
  rintro e W2 ⟨rfl, hb2⟩
  cases cb
  all_goals
    go_wp2_with fail
    go_ret
    exact ⟨rfl, b1.trans (hb2.mono b1.size)⟩

set_option maxRecDepth 100000 in
theorem lifted (os : Os) (started : os.Started) (H : Type) (enc : TypeId × Value → H) :
    ReturnsInHanded {} Try.checked os 6 .any (Rows.datumCompareSpec.pre6 enc Try.prog Try.f6 Rows.datumCompareRow.domain false) (Rows.datumCompareSpec.post enc Try.prog Try.f6 false true false false) := by
  refine returnsInHanded_of_change_sized (C := Try.checked) own started (by kernel_rfl) Try.func6
    (ChangeSpec.witness6 (enc := enc) (C := Try.checked) false ⟨#[], #[.agg #[.int .i64 0, .int .i64 0, .string { data := #[] }], .agg #[.int .i64 0, .int .i64 0, .string { data := #[] }]], []⟩ 8 (by kernel_rfl) (by kernel_rfl) (by kernel_rfl) (by kernel_rfl)) ?_
  intro W base args ds gs before hval0 hW hcnd hsz0 _
  have hsz : (DataW.weightsEach Try.prog (Try.f6.params.toList ++ Rows.datumCompareSpec.plain.varTypes Try.prog) (ds ++ gs)).all (· ≤ reachBytes) = true := hsz0
  clear hsz0
  have hval : ∀ (j : Nat) t v, Try.f6.params[j]? = some t → args[j]? = some v → Value.okWide Try.prog W .any base t v := hval0
  have hW' := hW
  obtain ⟨p, q, hA0, hV, rfl, hfz, hnd⟩ := hW
  have hA : DataW.TrodAll enc Try.prog W 0 (fun _ => true) true Try.f6.params.toList args.toList ds p := hA0
  rw [Try.params6] at hA hval hsz
  obtain ⟨v0, vs0, d0, ds0, p0, q0, hargs, rfl, rfl, h0, r0⟩ := trodAll_cons hA
  obtain ⟨v1, vs1, d1, ds1, p1, q1, rfl, rfl, rfl, h1, r1⟩ := trodAll_cons r0
  obtain ⟨rfl, rfl, rfl⟩ := trodAll_nil r1
  obtain rfl : args = #[v0, v1] := by cases args; simp_all
  obtain ⟨rfl, rfl⟩ := trodVars_none hV
  have e0 := h0
  have lt0 : ∀ x ∈ p0, x.block < W.heap.size := by obtain ⟨m, hm⟩ := e0; exact DataW.trod_lt m _ _ _ hm
  obtain ⟨k0, n0, s0, rfl, g0, w0, z0⟩ := arg_datum (hval 0 29 v0 rfl rfl) h0
  have e1 := h1
  have lt1 : ∀ x ∈ p1, x.block < W.heap.size := by obtain ⟨m, hm⟩ := e1; exact DataW.trod_lt m _ _ _ hm
  obtain ⟨k1, n1, s1, rfl, g1, w1, z1⟩ := arg_datum (hval 1 29 v1 rfl rfl) h1
  clear hA0 hval0
  refine (walk k0 n0 s0 k1 n1 s1 W g0 w0 z0 g1 w1 z1).mono fun e W' ⟨he, bel⟩ => ?_
  subst he
  exact ⟨_, rfl, _, _, _, [], _, [], hW', trodAll_mk1 (shut_bool Try.underlying4 _), (trodAll_cons_mk (Below.trod laidOut (by kernel_rfl) (of_decide_eq_true (by kernel_rfl)) e0 bel lt0) (trodAll_cons_mk (Below.trod laidOut (by kernel_rfl) (of_decide_eq_true (by kernel_rfl)) e1 bel lt1) trodAll_mk0)), rfl, bel.frame _, fun h => by cases h⟩

theorem over : Rows.datumCompareRow.holds Try.pinned (OpenSpec.ofChange Rows.datumCompareSpec) :=
  OpenClaim.holds_of_wide 6 Try.f6 rfl rfl rfl rfl rfl rfl rfl ⟨rfl, rfl, rfl, rfl, rfl⟩ rfl rfl rfl rfl rfl (by kernel_rfl) Try.func6 (by kernel_rfl)
    (of_decide_eq_true (by kernel_rfl)) (by unfold Func.isWrapper; first | (rw [if_pos (by decide +kernel)]; kernel_rfl) | (rw [if_neg (by decide +kernel)]; exact ⟨rfl, rfl⟩))
    (fun os started H enc _ => lifted os started H enc)

theorem proved : Rows.DatumCompareSaid := over
#print axioms proved
end Go.Proofs.Ytndeglamnnipoaa.datumCompare
namespace Go.Proofs.Ytndeglamnnipoaa
theorem datumCompare_holds : Rows.DatumCompareSaid := datumCompare.proved
end Go.Proofs.Ytndeglamnnipoaa
