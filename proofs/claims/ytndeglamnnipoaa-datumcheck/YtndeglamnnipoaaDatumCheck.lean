/-
For any type datum.Check answers OK where the reference says that it may be, else ErrArg. No condition.
-/
import Derived.Test.YtndeglamnnipoaaRows
import Derived.Test.YtndeglamnnipoaaFrame
import Derived.Test.YtndeglamnnipoaaChk
import Derived.WalkKit
import Derived.ProofKit
import Derived.OpenShut
import Derived.ShutString
import Derived.ChangeOld
import Derived.Below
namespace Go.Proofs.Ytndeglamnnipoaa.datumCheck
open Go.ChangeShapes Go.WideShapes Go.ChangeAt Go.RowKit Go.Deep
set_option linter.unusedVariables false
set_option linter.unusedSimpArgs false

set_option maxRecDepth 100000 in
set_option maxHeartbeats 4000000 in
theorem walk (k0 n0 : Int) (w : World) (g0 : (Lit.int .i64 k0).wf = true) (w0 : (Lit.int .i64 n0).wf = true) :
    Calls Try.prog 3 #[.agg #[.int .i64 k0, .int .i64 n0]] w fun e w' => e = .returned (.bool true) ∧ Below w.heap.size w w' := by
  have hb0 : Below w.heap.size w (w.alloc (.cells #[.int .i64 k0, .int .i64 n0] 24)) := alloc_below w _
  have hx : (w.alloc (.cells #[.int .i64 k0, .int .i64 n0] 24)).heap[w.heap.size]? = some (.cells #[.int .i64 k0, .int .i64 n0] 24 (0, 0)) := heap_new w _
  have CK := check_any k0 n0 (w.alloc (.cells #[.int .i64 k0, .int .i64 n0] 24))
  go_enter Try.func3, Try.ntmps3
  go_wp2_with fail
  generalize w.alloc (.cells #[.int .i64 k0, .int .i64 n0] 24) = W0 at *
  refine CK.mono ?_
  rintro e W1 ⟨rfl, hb1⟩
  clear CK
  have hx1 := below_at hb1 hx
  have b1 := hb0.trans (hb1.mono hb0.size)
  obtain ⟨⟨c0, c1⟩, _⟩ := blk2 hx1
  have RC := rcheck_any k0 n0 W1
  have HC : Hid (chkN k0 n0 = if chkB k0 n0 = true then 0 else 2) := rfl
  generalize chkB k0 n0 = t at *
  cases t
  · have hN : chkN k0 n0 = 2 := HC.out
    rw [hN]
    go_wp2_with fail
    refine RC.mono ?_
    rintro e W2 ⟨rfl, hb2⟩
    go_wp2_with fail
    go_ret
    exact ⟨rfl, b1.trans (hb2.mono b1.size)⟩
  · have hN : chkN k0 n0 = 0 := HC.out
    rw [hN]
    go_wp2_with fail
    refine RC.mono ?_
    rintro e W2 ⟨rfl, hb2⟩
    go_wp2_with fail
    go_ret
    exact ⟨rfl, b1.trans (hb2.mono b1.size)⟩

set_option maxRecDepth 100000 in
theorem lifted (os : Os) (started : os.Started) (H : Type) (enc : TypeId × Value → H) :
    ReturnsInHanded {} Try.checked os 3 .any (Rows.datumCheckSpec.pre6 enc Try.prog Try.f3 Rows.datumCheckRow.domain false) (Rows.datumCheckSpec.post enc Try.prog Try.f3 false true false false) := by
  refine returnsInHanded_of_change_sized (C := Try.checked) own started (by kernel_rfl) Try.func3
    (ChangeSpec.witness6 (enc := enc) (C := Try.checked) false ⟨#[], #[.agg #[.int .i64 0, .int .i64 0]], []⟩ 8 (by kernel_rfl) (by kernel_rfl) (by kernel_rfl) (by kernel_rfl)) ?_
  intro W base args ds gs before hval0 hW hcnd hsz0 _
  have hsz : (DataW.weightsEach Try.prog (Try.f3.params.toList ++ Rows.datumCheckSpec.plain.varTypes Try.prog) (ds ++ gs)).all (· ≤ reachBytes) = true := hsz0
  clear hsz0
  have hval : ∀ (j : Nat) t v, Try.f3.params[j]? = some t → args[j]? = some v → Value.okWide Try.prog W .any base t v := hval0
  have hW' := hW
  obtain ⟨p, q, hA0, hV, rfl, hfz, hnd⟩ := hW
  have hA : DataW.TrodAll enc Try.prog W 0 (fun _ => true) true Try.f3.params.toList args.toList ds p := hA0
  rw [Try.params3] at hA hval hsz
  obtain ⟨v0, vs0, d0, ds0, p0, q0, hargs, rfl, rfl, h0, r0⟩ := trodAll_cons hA
  obtain ⟨rfl, rfl, rfl⟩ := trodAll_nil r0
  obtain rfl : args = #[v0] := by cases args; simp_all
  obtain ⟨rfl, rfl⟩ := trodVars_none hV
  have e0 := h0
  have lt0 : ∀ x ∈ p0, x.block < W.heap.size := by obtain ⟨m, hm⟩ := e0; exact DataW.trod_lt m _ _ _ hm
  obtain ⟨k0, n0, rfl, g0, w0⟩ := arg_type (hval 0 24 v0 rfl rfl) h0
  clear hA0 hval0
  refine (walk k0 n0 W g0 w0).mono fun e W' ⟨he, bel⟩ => ?_
  subst he
  exact ⟨_, rfl, _, _, _, [], _, [], hW', trodAll_mk1 (shut_bool Try.underlying4 _), (trodAll_cons_mk (Below.trod laidOut (by kernel_rfl) (of_decide_eq_true (by kernel_rfl)) e0 bel lt0) trodAll_mk0), rfl, bel.frame _, fun h => by cases h⟩

theorem over : Rows.datumCheckRow.holds Try.pinned (OpenSpec.ofChange Rows.datumCheckSpec) :=
  OpenClaim.holds_of_wide 3 Try.f3 rfl rfl rfl rfl rfl rfl rfl ⟨rfl, rfl, rfl, rfl, rfl⟩ rfl rfl rfl rfl rfl (by kernel_rfl) Try.func3 (by kernel_rfl)
    (of_decide_eq_true (by kernel_rfl)) (by unfold Func.isWrapper; first | (rw [if_pos (by decide +kernel)]; kernel_rfl) | (rw [if_neg (by decide +kernel)]; exact ⟨rfl, rfl⟩))
    (fun os started H enc _ => lifted os started H enc)

theorem proved : Rows.DatumCheckSaid := over
#print axioms proved
end Go.Proofs.Ytndeglamnnipoaa.datumCheck
namespace Go.Proofs.Ytndeglamnnipoaa
theorem datumCheck_holds : Rows.DatumCheckSaid := datumCheck.proved
end Go.Proofs.Ytndeglamnnipoaa
