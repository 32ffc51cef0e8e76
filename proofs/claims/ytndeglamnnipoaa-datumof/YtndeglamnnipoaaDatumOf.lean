/-
For any datum and any type datum.Of answers as the reference's Of. No condition.
-/
import Derived.Test.YtndeglamnnipoaaRows
import Derived.Test.YtndeglamnnipoaaFrame
import Derived.Test.YtndeglamnnipoaaOfA
import Derived.Lib.QuietBelow
import Derived.BigQuiet
import Derived.WalkKit
import Derived.ProofKit
import Derived.OpenShut
import Derived.ShutString
import Derived.ChangeOld
import Derived.Below
namespace Go.Proofs.Ytndeglamnnipoaa.datumOf
open Go.ChangeShapes Go.WideShapes Go.ChangeAt Go.RowKit Go.Deep Go.Sort
set_option linter.unusedVariables false
set_option linter.unusedSimpArgs false

set_option maxRecDepth 100000 in
set_option maxHeartbeats 4000000 in
theorem walk (k0 n0 : Int) (s0 : ByteArray) (k1 n1 : Int) (w : World) (g0 : (Lit.int .i64 k0).wf = true) (w0 : (Lit.int .i64 n0).wf = true) (z0 : s0.size ≤ maxLen) (g1 : (Lit.int .i64 k1).wf = true) (w1 : (Lit.int .i64 n1).wf = true) :
    Calls Try.prog 4 #[.agg #[.int .i64 k0, .int .i64 n0, .string s0], .agg #[.int .i64 k1, .int .i64 n1]] w fun e w' => e = .returned (.bool true) ∧ Below w.heap.size w w' := by
  have hb0 : Below w.heap.size w ((w.alloc (.cells #[.int .i64 k0, .int .i64 n0, .string s0] 29)).alloc (.cells #[.int .i64 k1, .int .i64 n1] 24)) := (alloc_below _ _).alloc (by simp) _
  have hx0 : ((w.alloc (.cells #[.int .i64 k0, .int .i64 n0, .string s0] 29)).alloc (.cells #[.int .i64 k1, .int .i64 n1] 24)).heap[w.heap.size]? = some (.cells #[.int .i64 k0, .int .i64 n0, .string s0] 29 (0, 0)) := below_at (alloc_below _ _) (heap_new _ _)
  have hy0 : ((w.alloc (.cells #[.int .i64 k0, .int .i64 n0, .string s0] 29)).alloc (.cells #[.int .i64 k1, .int .i64 n1] 24)).heap[w.heap.size + 1]? = some (.cells #[.int .i64 k1, .int .i64 n1] 24 (0, 0)) := heap2_new _ _ _
  have C1 := fun W => of_any k0 n0 s0 k1 n1 W
  have C2 := fun W => rof_any k0 n0 s0 k1 n1 w0 W
  generalize ofB k0 n0 s0.size k1 n1 = t at *
  clear g0 w0 z0 g1 w1
  go_enter Try.func4, Try.ntmps4
  go_wp2_with fail
  generalize (w.alloc (.cells #[.int .i64 k0, .int .i64 n0, .string s0] 29)).alloc (.cells #[.int .i64 k1, .int .i64 n1] 24) = W0 at *
  obtain ⟨⟨c0, c1, c2⟩, _⟩ := blk3 hx0
  obtain ⟨⟨d0, d1⟩, _⟩ := blk2 hy0
  have r0 := cell_regrown c0; have r1 := cell_regrown c1; have r2 := cell_regrown c2; have r3 := cell_regrown d0; have r4 := cell_regrown d1
  have R1 : ∀ x os, Calls Try.prog 12 #[.agg #[.int .i64 k0, .int .i64 n0, .string s0], .agg #[.int .i64 k1, .int .i64 n1]] (grow (redrawn W0 x) os) fun e w'' => e = .returned (.bool t) ∧ ∃ p : Regrown, w'' = grow (redrawn W0 p.d) p.os := fun x os => Calls.regrown_of (C1 _)
  have R2 : ∀ x os, Calls Try.prog 13 #[.agg #[.int .i64 k0, .int .i64 n0, .string s0], .agg #[.int .i64 k1, .int .i64 n1]] (grow (redrawn W0 x) os) fun e w'' => e = .returned (.bool t) ∧ ∃ p : Regrown, w'' = grow (redrawn W0 p.d) p.os := fun x os => Calls.regrown_of (C2 _)
  clear hx0 hy0 C1 C2
  refine wp_region_quiet_below (by kernel_rfl) (by kernel_rfl) ?_
  repeat (go_big_quiet_step (first | (with_reducible exact R1 _ _) | (with_reducible exact R2 _ _)))
  refine wpQuiet_nil ?_
  intro _ hw'
  obtain ⟨⟨dq, osq⟩, hw''⟩ := hw'
  subst hw''
  have hbq := below_regrown W0 dq osq
  generalize grow (redrawn W0 dq) osq = wq at *
  cases t
  all_goals
    go_wp2_with fail
    go_ret
    exact ⟨rfl, hb0.trans (hbq.mono hb0.size)⟩

set_option maxRecDepth 100000 in
theorem lifted (os : Os) (started : os.Started) (H : Type) (enc : TypeId × Value → H) :
    ReturnsInHanded {} Try.checked os 4 .any (Rows.datumOfSpec.pre6 enc Try.prog Try.f4 Rows.datumOfRow.domain false) (Rows.datumOfSpec.post enc Try.prog Try.f4 false true false false) := by
  refine returnsInHanded_of_change_sized (C := Try.checked) own started (by kernel_rfl) Try.func4
    (ChangeSpec.witness6 (enc := enc) (C := Try.checked) false ⟨#[], #[.agg #[.int .i64 0, .int .i64 0, .string { data := #[] }], .agg #[.int .i64 0, .int .i64 0]], []⟩ 8 (by kernel_rfl) (by kernel_rfl) (by kernel_rfl) (by kernel_rfl)) ?_
  intro W base args ds gs before hval0 hW hcnd hsz0 _
  have hsz : (DataW.weightsEach Try.prog (Try.f4.params.toList ++ Rows.datumOfSpec.plain.varTypes Try.prog) (ds ++ gs)).all (· ≤ reachBytes) = true := hsz0
  clear hsz0
  have hval : ∀ (j : Nat) t v, Try.f4.params[j]? = some t → args[j]? = some v → Value.okWide Try.prog W .any base t v := hval0
  have hW' := hW
  obtain ⟨p, q, hA0, hV, rfl, hfz, hnd⟩ := hW
  have hA : DataW.TrodAll enc Try.prog W 0 (fun _ => true) true Try.f4.params.toList args.toList ds p := hA0
  rw [Try.params4] at hA hval hsz
  obtain ⟨v0, vs0, d0, ds0, p0, q0, hargs, rfl, rfl, h0, r0⟩ := trodAll_cons hA
  obtain ⟨v1, vs1, d1, ds1, p1, q1, rfl, rfl, rfl, h1, r1⟩ := trodAll_cons r0
  obtain ⟨rfl, rfl, rfl⟩ := trodAll_nil r1
  obtain rfl : args = #[v0, v1] := by cases args; simp_all
  obtain ⟨rfl, rfl⟩ := trodVars_none hV
  have e0 := h0
  have lt0 : ∀ x ∈ p0, x.block < W.heap.size := by obtain ⟨m, hm⟩ := e0; exact DataW.trod_lt m _ _ _ hm
  obtain ⟨k0, n0, s0, rfl, g0, w0, z0⟩ := arg_datum (hval 0 29 v0 rfl rfl) h0
  have e1 := h1
  have lt1 : ∀ x ∈ p1, x.block < W.heap.size := by obtain ⟨m, hm⟩ := e1; exact DataW.trod_lt m _ _ _ hm
  obtain ⟨k1, n1, rfl, g1, w1⟩ := arg_type (hval 1 24 v1 rfl rfl) h1
  clear hA0 hval0
  refine (walk k0 n0 s0 k1 n1 W g0 w0 z0 g1 w1).mono fun e W' ⟨he, bel⟩ => ?_
  subst he
  exact ⟨_, rfl, _, _, _, [], _, [], hW', trodAll_mk1 (shut_bool Try.underlying4 _), (trodAll_cons_mk (Below.trod laidOut (by kernel_rfl) (of_decide_eq_true (by kernel_rfl)) e0 bel lt0) (trodAll_cons_mk (Below.trod laidOut (by kernel_rfl) (of_decide_eq_true (by kernel_rfl)) e1 bel lt1) trodAll_mk0)), rfl, bel.frame _, fun h => by cases h⟩

theorem over : Rows.datumOfRow.holds Try.pinned (OpenSpec.ofChange Rows.datumOfSpec) :=
  OpenClaim.holds_of_wide 4 Try.f4 rfl rfl rfl rfl rfl rfl rfl ⟨rfl, rfl, rfl, rfl, rfl⟩ rfl rfl rfl rfl rfl (by kernel_rfl) Try.func4 (by kernel_rfl)
    (of_decide_eq_true (by kernel_rfl)) (by unfold Func.isWrapper; first | (rw [if_pos (by decide +kernel)]; kernel_rfl) | (rw [if_neg (by decide +kernel)]; exact ⟨rfl, rfl⟩))
    (fun os started H enc _ => lifted os started H enc)

theorem proved : Rows.DatumOfSaid := over
#print axioms proved
end Go.Proofs.Ytndeglamnnipoaa.datumOf
namespace Go.Proofs.Ytndeglamnnipoaa
theorem datumOf_holds : Rows.DatumOfSaid := datumOf.proved
end Go.Proofs.Ytndeglamnnipoaa
