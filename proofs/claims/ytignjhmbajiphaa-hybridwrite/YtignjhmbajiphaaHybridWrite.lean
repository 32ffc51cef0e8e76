/-
For any width and any whole numbers (at most 400; else the law says nothing): Write answers as the document's Write, with the same bytes and the same refusal; what was handed in stays. No condition.
-/
import Derived.Test.YtignjhmbajiphaaRows
import Derived.Test.YtignjhmbajiphaaFrame
import Derived.Test.YtignjhmbajiphaaHbU
import Derived.WalkKit
import Derived.ProofKit
import Derived.OpenShut
import Derived.ShutString
import Derived.ChangeOld
import Derived.ChangeMaps5
import Derived.Below
namespace Go.Proofs.Ytignjhmbajiphaa.hybridWrite
open Go.ChangeShapes Go.WideShapes Go.ChangeAt Go.RowKit Go.Deep Go.Sort
set_option linter.unusedVariables false
set_option linter.unusedSimpArgs false

set_option maxRecDepth 100000 in
set_option maxHeartbeats 4000000 in
theorem walk (a0 : Int) (a1 : Option Addr) (len1 cap1 : Nat) (l1 : List Int) (w : World) (w0 : (Lit.int .i64 a0).wf = true) (w1 : IntRow w a1 len1 cap1 l1) :
    Calls Try.prog 3 #[.int .i64 a0, .slice a1 len1 cap1] w fun e w' => e = .returned (.bool true) ∧ Below w.heap.size w w' := by
  by_cases hbig : 400 < len1
  · have hbig' : (400 : Int) < (len1 : Int) := by omega
    go_enter Try.func3, Try.ntmps3
    go_wp2_with fail
    go_ret
    exact ⟨rfl, Below.refl _ _⟩
  have hbig' : (len1 : Int) ≤ 400 := by omega
  obtain ⟨i0, hi, hz0, hz1, hz2⟩ := info_parts infoInt
  have hsrc := w1.src
  have hi64 := w1.i64
  have hu := i64_wf w0
  go_enter Try.func3, Try.ntmps3
  go_wp2_with (at_builtin; go_loud (refine wpList_append_src rfl (.const (.slice none 0 0)) (.tmp 13) 22 rfl w.heap.size 3 i0 (.int .i64 0) 8 Try.underlying22 hi hz0 hz1 hz2 rfl (.slice none 0 0) 0 [] rfl (World.ownsRow_nil _ _ _ _) a1 len1 cap1 _ rfl hsrc (ints_one _ _) (by unfold maxLen; omega) (by omega) (Nat.le_refl _) ?_); intro v1 W1 hown1 hb1)
  have hown1' : W1.ownsRow w.heap.size 3 1 v1 len1 (l1.map (Value.int .i64)) := by simpa using hown1
  clear hown1
  obtain ⟨ma, mc, rfl⟩ := own_sl hown1'
  have hmc := own_cap hown1'
  have hms : SrcI W1 ma len1 mc l1 := (src_own hown1').2
  have hRW := fun W2 (hb2 : Below w.heap.size w W2) => rwrite_any a1 len1 cap1 a0 l1 W2 (by omega) (Src.later hsrc hb2) hi64
  by_cases hno : wErr a0 l1 = 0
  · obtain ⟨W, rfl, hW, hfit⟩ := wErr_ok hi64 hno
    have hWY := write_yes ma len1 mc W l1 W1 (by omega) hmc hW hms hi64 hfit
    rw [hno] at hRW
    clear hno hu
    go_wp2_with fail
    refine hWY.mono ?_
    rintro e W2 ⟨v2, rfl, hown2, hb2⟩
    have hb02 := hb1.trans (hb2.mono hb1.size)
    have hms2 := Src.later hms hb2
    obtain ⟨a2, c2, rfl⟩ := own_sl hown2
    go_wp2_with fail
    refine (hRW W2 hb02).mono ?_
    rintro e W3 ⟨hb3, v3, rfl, hcase⟩
    have hown3 : W3.ownsRow W2.heap.size 5 1 v3 (told W l1).length ((told W l1).map (Value.int .u8)) := by
      rcases hcase with ⟨h, _⟩ | ⟨W', hw, _, _, _, h⟩
      · exact absurd rfl h
      · have : W = W' := by omega
        subst this
        exact h
    clear hcase
    obtain ⟨a3, c3, rfl⟩ := own_sl hown3
    have hb03 := hb02.trans (hb3.mono hb02.size)
    have cv1 := fun X (h : Below W3.heap.size W3 X) => str_own (own_below (own_below hown2 hb3) h)
    have cv2 := fun X (h : Below W3.heap.size W3 X) => str_own (own_below hown3 h)
    have cc1 := cv1 W3 (Below.refl _ _)
    have cc2 := cv2 W3 (Below.refl _ _)
    have SI := rsi_any ma a1 len1 len1 mc cap1 l1 l1 W3 (by omega) (by omega) (Src.later hms2 hb3) (Src.later hsrc hb03)
    rw [show decide (l1 = l1) = true by simp] at SI
    clear hown2 hown3 hown1' hms hms2 hWY hRW
    generalize told W l1 = T at *
    go_wp2_with fail
    refine SI.mono ?_
    rintro e W4 ⟨rfl, hb4⟩
    go_wp2_with fail
    go_ret
    exact ⟨by simp, hb03.trans (hb4.mono hb03.size)⟩
  · have hWN := write_no ma len1 mc a0 l1 W1 (by omega) hms hi64 hno
    have HNO : Hid (wErr a0 l1 ≠ 0) := hno
    generalize wErr a0 l1 = er at *
    clear hno
    go_wp2_with fail
    refine hWN.mono ?_
    rintro e W2 ⟨rfl, hb2⟩
    have hb02 := hb1.trans (hb2.mono hb1.size)
    have hms2 := Src.later hms hb2
    go_wp2_with fail
    refine (hRW W2 hb02).mono ?_
    rintro e W3 ⟨hb3, v3, rfl, hcase⟩
    have hv3 : v3 = .slice none 0 0 := by
      rcases hcase with ⟨_, h⟩ | ⟨W', hw, _, _, h0, _⟩
      · exact h
      · exact absurd h0 HNO.out
    subst hv3
    clear hcase
    have hb03 := hb02.trans (hb3.mono hb02.size)
    have cc1 := strAt_nil W3 W3 (Below.refl _ _)
    have SI := rsi_any ma a1 len1 len1 mc cap1 l1 l1 W3 (by omega) (by omega) (Src.later hms2 hb3) (Src.later hsrc hb03)
    rw [show decide (l1 = l1) = true by simp] at SI
    clear hown1' hms hms2 hWN hRW
    go_wp2_with fail
    refine SI.mono ?_
    rintro e W4 ⟨rfl, hb4⟩
    go_wp2_with fail
    go_ret
    exact ⟨by simp, hb03.trans (hb4.mono hb03.size)⟩

set_option maxRecDepth 100000 in
theorem lifted (os : Os) (started : os.Started) (H : Type) (enc : TypeId × Value → H) :
    ReturnsInHanded {} Try.checked os 3 .any (Rows.hybridWriteSpec.pre6 enc Try.prog Try.f3 Rows.hybridWriteRow.domain false) (Rows.hybridWriteSpec.post enc Try.prog Try.f3 false true false false) := by
  refine returnsInHanded_of_change_sized (C := Try.checked) own started (by kernel_rfl) Try.func3
    (ChangeSpec.witness6 (enc := enc) (C := Try.checked) false ⟨#[], #[.int .i64 0, .slice none 0 0], []⟩ 8 (by kernel_rfl) (by kernel_rfl) (by kernel_rfl) (by kernel_rfl)) ?_
  intro W base args ds gs before hval0 hW hcnd hsz0 _
  have hsz : (DataW.weightsEach Try.prog (Try.f3.params.toList ++ Rows.hybridWriteSpec.plain.varTypes Try.prog) (ds ++ gs)).all (· ≤ reachBytes) = true := hsz0
  clear hsz0
  have hval : ∀ (j : Nat) t v, Try.f3.params[j]? = some t → args[j]? = some v → Value.okWide Try.prog W .any base t v := hval0
  have hW' := hW
  obtain ⟨p, q, hA0, hV, rfl, hfz, hnd⟩ := hW
  have hA : DataW.TrodAll enc Try.prog W 0 (fun _ => true) true Try.f3.params.toList args.toList ds p := hA0
  rw [Try.params3] at hA hval hsz
  obtain ⟨v0, vs0, d0, ds0, p0, q0, hargs, rfl, rfl, h0, r0⟩ := trodAll_cons hA
  obtain ⟨v1, vs1, d1, ds1, p1, q1, rfl, rfl, rfl, h1, r1⟩ := trodAll_cons r0
  obtain ⟨rfl, rfl, rfl⟩ := trodAll_nil r1
  obtain rfl : args = #[v0, v1] := by cases args; simp_all
  obtain ⟨rfl, rfl⟩ := trodVars_none hV
  have e0 := h0
  have lt0 : ∀ x ∈ p0, x.block < W.heap.size := by obtain ⟨m, hm⟩ := e0; exact DataW.trod_lt m _ _ _ hm
  obtain ⟨a0, rfl, _, _, w0⟩ := open_int Try.underlying3 (hval 0 3 v0 rfl rfl) h0
  have e1 := h1
  have lt1 : ∀ x ∈ p1, x.block < W.heap.size := by obtain ⟨m, hm⟩ := e1; exact DataW.trod_lt m _ _ _ hm
  obtain ⟨a1, len1, cap1, l1, rfl, w1⟩ := arg_ints (hval 1 22 v1 rfl rfl) h1
  clear hA0 hval0
  refine (walk a0 a1 len1 cap1 l1 W w0 w1).mono fun e W' ⟨he, bel⟩ => ?_
  subst he
  exact ⟨_, rfl, _, _, _, [], _, [], hW', trodAll_mk1 (shut_bool Try.underlying4 _), (trodAll_cons_mk (Below.trod laidOut (by kernel_rfl) (of_decide_eq_true (by kernel_rfl)) e0 bel lt0) (trodAll_cons_mk (Below.trod laidOut (by kernel_rfl) (of_decide_eq_true (by kernel_rfl)) e1 bel lt1) trodAll_mk0)), rfl, bel.frame _, fun h => by cases h⟩

theorem over : Rows.hybridWriteRow.holds Try.pinned (OpenSpec.ofChange Rows.hybridWriteSpec) :=
  OpenClaim.holds_of_wide 3 Try.f3 rfl rfl rfl rfl rfl rfl rfl ⟨rfl, rfl, rfl, rfl, rfl⟩ rfl rfl rfl rfl rfl (by kernel_rfl) Try.func3 (by kernel_rfl)
    (of_decide_eq_true (by kernel_rfl)) (by unfold Func.isWrapper; first | (rw [if_pos (by decide +kernel)]; kernel_rfl) | (rw [if_neg (by decide +kernel)]; exact ⟨rfl, rfl⟩))
    (fun os started H enc _ => lifted os started H enc)

theorem proved : Rows.HybridWriteSaid := over
#print axioms proved
end Go.Proofs.Ytignjhmbajiphaa.hybridWrite
namespace Go.Proofs.Ytignjhmbajiphaa
theorem hybridWrite_holds : Rows.HybridWriteSaid := hybridWrite.proved
end Go.Proofs.Ytignjhmbajiphaa
