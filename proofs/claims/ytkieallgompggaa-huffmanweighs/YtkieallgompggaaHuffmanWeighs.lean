/-
For any numbers huffman.Weigh answers what the reference's Weigh answers: what they weigh, or why they may not be; what is handed in stays. No condition.
-/
import Derived.Test.YtkieallgompggaaRows
import Derived.Test.YtkieallgompggaaFrame
import Derived.Test.YtkieallgompggaaRefB
import Derived.WalkKit
import Derived.ProofKit
import Derived.OpenShut
import Derived.ShutString
import Derived.ChangeOld
import Derived.Below
namespace Go.Proofs.Ytkieallgompggaa.huffmanWeighs
open Go.ChangeShapes Go.WideShapes Go.ChangeAt Go.RowKit
set_option linter.unusedVariables false
set_option linter.unusedSimpArgs false

set_option maxRecDepth 100000 in
set_option maxHeartbeats 4000000 in
theorem walk (a0 : Option Addr) (len0 cap0 : Nat) (z0 : List Int) (w : World) (w0 : IsRow .i64 w a0 len0 cap0 z0) (s0 : (len0 + 1) * 8 ≤ 140737488355328) :
    Calls Try.prog 3 #[.slice a0 len0 cap0] w fun e w' => e = .returned (.bool true) ∧ Below w.heap.size w w' := by
  obtain ⟨l, hl, hB, hs⟩ := row_ints w0
  have LE := lent_any w a0 cap0 len0 l hs s0
  have HL : Hid (l.length = len0) := hl
  have HS : Hid (Src w a0 len0 cap0 (ci l)) := hs
  have HZ : Hid ((len0 + 1) * 8 ≤ 140737488355328) := s0
  clear w0 hB hs hl s0
  go_enter Try.func3, Try.ntmps3
  go_wp2_with fail
  refine LE.mono ?_
  rintro e W1 ⟨g, cc, rfl, hm1, hcc, hb1⟩
  have KW := weigh_any W1 (some ⟨g, 0, none⟩) len0 cc l (lent_src hm1 HL.out) (by have := HZ.out; omega)
  clear LE
  generalize hv : weiV l = v at *
  generalize he : refu 15 l = q at *
  go_wp2_with fail
  refine KW.mono ?_
  rintro e W2 ⟨rfl, hb2⟩
  have b02 := hb1.trans (hb2.mono hb1.size)
  have KR := rweigh_any W2 a0 len0 cap0 l (HS.out.later b02) (by have := HZ.out; omega)
  rw [hv, he] at KR
  have KK := kept_any W2 g cc len0 cap0 a0 l (hm1.later hb2) hcc (HS.out.later b02) (by have := HZ.out; omega)
  clear KW hv he
  go_wp2_with fail
  refine KR.mono ?_
  rintro e wx ⟨rfl, hwx⟩
  obtain rfl := hwx.symm
  clear KR
  go_wp2_with fail
  refine (num_any q W2).mono ?_
  rintro e wx ⟨rfl, hwx⟩
  obtain rfl := hwx.symm
  go_wp2_with fail
  refine KK.mono ?_
  rintro e W3 ⟨rfl, hb3⟩
  have b03 := b02.trans (hb3.mono b02.size)
  go_wp2_with fail
  refine (works_any W3).mono ?_
  rintro e W4 ⟨rfl, hb4⟩
  go_wp2_with fail
  go_ret
  exact ⟨rfl, b03.trans (hb4.mono b03.size)⟩

set_option maxRecDepth 100000 in
theorem lifted (os : Os) (started : os.Started) (H : Type) (enc : TypeId × Value → H) :
    ReturnsInHanded {} Try.checked os 3 .any (Rows.huffmanWeighsSpec.pre6 enc Try.prog Try.f3 Rows.huffmanWeighsRow.domain false) (Rows.huffmanWeighsSpec.post enc Try.prog Try.f3 false true false false) := by
  refine returnsInHanded_of_change_sized (C := Try.checked) own started (by kernel_rfl) Try.func3
    (ChangeSpec.witness6 (enc := enc) (C := Try.checked) false ⟨#[], #[.slice none 0 0], []⟩ 8 (by kernel_rfl) (by kernel_rfl) (by kernel_rfl) (by kernel_rfl)) ?_
  intro W base args ds gs before hval0 hW hcnd hsz0 _
  have hsz : (DataW.weightsEach Try.prog (Try.f3.params.toList ++ Rows.huffmanWeighsSpec.plain.varTypes Try.prog) (ds ++ gs)).all (· ≤ reachBytes) = true := hsz0
  clear hsz0
  have hval : ∀ (j : Nat) t v, Try.f3.params[j]? = some t → args[j]? = some v → Value.okWide Try.prog W .any base t v := hval0
  have hW' := hW
  obtain ⟨p, q, hA0, hV, rfl, hfz, hnd⟩ := hW
  have hA : DataW.TrodAll enc Try.prog W 0 (fun _ => true) true Try.f3.params.toList args.toList ds p := hA0
  rw [Try.params3] at hA hval hsz
  obtain ⟨v0, vs0, d0, ds0, p0, q0, hargs, rfl, rfl, h0, r0⟩ := trodAll_cons hA
  obtain ⟨rfl, rfl, rfl⟩ := trodAll_nil r0
  obtain rfl : args = #[v0] := by cases args; simp_all
  obtain ⟨rfl, rfl⟩ := trodVars_none hV
  obtain ⟨a0, len0, cap0, rfl⟩ := okWide_slice Try.underlying22 (hval 0 22 v0 rfl rfl)
  have k0 := h0
  have lt0 : ∀ x ∈ p0, x.block < W.heap.size := by obtain ⟨m, hm⟩ := k0; exact DataW.trod_lt m _ _ _ hm
  obtain ⟨z0, w0, s0⟩ := row_open hsz 0 rfl rfl h0
  clear hA0 hval0
  refine (walk a0 len0 cap0 z0 W w0 s0).mono fun e W' ⟨he, bel⟩ => ?_
  subst he
  exact ⟨_, rfl, _, _, _, [], _, [], hW', trodAll_mk1 (shut_bool Try.underlying4 _), (trodAll_cons_mk (Below.trod laidOut (by kernel_rfl) (of_decide_eq_true (by kernel_rfl)) k0 bel lt0) trodAll_mk0), rfl, bel.frame _, fun h => by cases h⟩

theorem over : Rows.huffmanWeighsRow.holds Try.pinned (OpenSpec.ofChange Rows.huffmanWeighsSpec) :=
  OpenClaim.holds_of_wide 3 Try.f3 rfl rfl rfl rfl rfl rfl rfl ⟨rfl, rfl, rfl, rfl, rfl⟩ rfl rfl rfl rfl rfl (by kernel_rfl) Try.func3 (by kernel_rfl)
    (of_decide_eq_true (by kernel_rfl)) (by unfold Func.isWrapper; first | (rw [if_pos (by decide +kernel)]; kernel_rfl) | (rw [if_neg (by decide +kernel)]; exact ⟨rfl, rfl⟩))
    (fun os started H enc _ => lifted os started H enc)

theorem proved : Rows.HuffmanWeighsSaid := over
#print axioms proved
end Go.Proofs.Ytkieallgompggaa.huffmanWeighs
namespace Go.Proofs.Ytkieallgompggaa
theorem huffmanWeighs_holds : Rows.HuffmanWeighsSaid := huffmanWeighs.proved
end Go.Proofs.Ytkieallgompggaa
