/-
For any bytes (of at most 6000) and any bound (up to 100000, or one that may not be; else the law asks the examples alone) snappy.Open answers the bytes, or the error, that the reference's Open answers; what is handed in stays. No condition.
-/
import Derived.Test.YtkkignjenjdjiaaRows
import Derived.Test.YtkkignjenjdjiaaFrame
import Derived.Test.YtkkignjenjdjiaaWorks
import Derived.Test.YtkkignjenjdjiaaRefD
import Derived.WalkKit
import Derived.ProofKit
import Derived.OpenShut
import Derived.ShutString
import Derived.ChangeOld
import Derived.Below
namespace Go.Proofs.Ytkkignjenjdjiaa.snappyOpens
open Go.ChangeShapes Go.WideShapes Go.ChangeAt Go.RowKit
set_option linter.unusedVariables false
set_option linter.unusedSimpArgs false

set_option maxRecDepth 100000 in
set_option maxHeartbeats 4000000 in
theorem walk (a0 : Option Addr) (len0 cap0 : Nat) (z0 : List Int) (a1 : Int) (w : World) (w0 : IsRow .u8 w a0 len0 cap0 z0) (w1 : (Lit.int .i64 a1).wf = true) :
    Calls Try.prog 3 #[.slice a0 len0 cap0, .int .i64 a1] w fun e w' => e = .returned (.bool true) ∧ Below w.heap.size w w' := by
  by_cases c : 6000 < len0
  · have c' : (6000 : Int) < (len0 : Int) := by omega
    go_enter Try.func3, Try.ntmps3
    go_wp2_with fail
    refine (works_any w).mono ?_
    rintro e W1 ⟨rfl, hb1⟩
    go_wp2
    go_ret
    exact ⟨rfl, hb1⟩
  have c' : (len0 : Int) ≤ 6000 := by omega
  by_cases d : 100000 < a1 ∧ a1 ≤ 1048576
  · obtain ⟨d1, d2⟩ := d
    go_enter Try.func3, Try.ntmps3
    go_wp2_with fail
    refine (works_any w).mono ?_
    rintro e W1 ⟨rfl, hb1⟩
    go_wp2
    go_ret
    exact ⟨rfl, hb1⟩
  have HD : Hid (a1 ≤ 100000 ∨ 1048576 < a1) := by show _ ∨ _; omega
  obtain ⟨l, hl, hB, hs⟩ := row_nat w0
  have LE := lent_any w a0 cap0 len0 l hs (by omega)
  have OA : ∀ W1 g cc, Src W1 (some ⟨g, 0, none⟩) (len0 + 1) cc (c8 (l ++ [77])) → len0 + 1 ≤ cc → Calls Try.prog 11 #[.slice (some ⟨g, 0, none⟩) len0 cc, .int .i64 a1] W1 fun e w' => Below W1.heap.size W1 w' ∧ match sOpen l a1 with
      | .ok m => ∃ ad cp, e = .returned (.tuple #[.slice ad m.length cp, .int .i64 0]) ∧ w'.ownsRow W1.heap.size 5 1 (.slice ad m.length cp) m.length (c8 m)
      | .error c => e = .returned (.tuple #[.slice none 0 0, .int .i64 c]) := by
    intro W1 g cc h1 h2
    have := open_any W1 (some ⟨g, 0, none⟩) l cc a1 (by rw [hl]; have := src_take h1 (n := len0) (by omega); rwa [List.take_left' hl] at this) (by omega) hB (by omega)
    rwa [hl] at this
  have OR : ∀ W2, Below w.heap.size w W2 → Calls Try.prog 12 #[.slice a0 len0 cap0, .int .i64 a1] W2 fun e w' => Below W2.heap.size W2 w' ∧ match sOpen l a1 with
      | .ok m => ∃ ad cp, e = .returned (.tuple #[.slice ad m.length cp, .int .i64 0]) ∧ w'.ownsRow W2.heap.size 5 1 (.slice ad m.length cp) m.length (c8 m)
      | .error c => e = .returned (.tuple #[.slice none 0 0, .int .i64 c]) := by
    intro W2 h1
    have := ropen_any W2 a0 l cap0 a1 (by rw [hl]; exact hs.later h1) hB (by omega)
    rwa [hl] at this
  have HL : Hid (l.length = len0) := hl
  have HS : Hid (Src w a0 len0 cap0 (c8 l)) := hs
  have HA : Hid _ := OA
  have HR : Hid _ := OR
  clear w0 w1 hl hB hs OA OR
  have d' : ¬ (100000 < a1 ∧ a1 ≤ 1048576) := d
  rcases HD.out with d1 | d1
  all_goals (
    go_enter Try.func3, Try.ntmps3
    go_wp2_with fail
    refine LE.mono ?_
    rintro e W1 ⟨g, cc, rfl, hm1, hcc, hb1⟩
    go_wp2_with fail
    refine (HA.out W1 g cc hm1 hcc).mono ?_
    rintro e W2 ⟨hb2, hr2⟩
    have hb02 := hb1.trans (hb2.mono hb1.size)
    cases hr : sOpen l a1 with
    | error x =>
      rw [hr] at hr2
      obtain rfl : e = .returned (.tuple #[.slice none 0 0, .int .i64 x]) := hr2
      go_wp2_with fail
      refine (HR.out W2 hb02).mono ?_
      rintro e W3 ⟨hb3, hr3⟩
      rw [hr] at hr3
      obtain rfl : e = .returned (.tuple #[.slice none 0 0, .int .i64 x]) := hr3
      have hb03 := hb02.trans (hb3.mono hb02.size)
      have hb13 := hb2.trans (hb3.mono hb2.size)
      have S1 := run_txt (w := W3) (a := none) (len := 0) (c := 0) (l := []) ⟨rfl, .inl ⟨rfl, rfl, rfl⟩⟩
      have KP := kept_any W3 g cc len0 cap0 a0 l (hm1.later hb13) hcc (HS.out.later hb03) (by omega)
      generalize txt [] = T at *
      clear hr HA HR hm1
      go_wp2_with fail
      refine (num_any x W3).mono ?_
      rintro e wx ⟨rfl, hwx⟩
      obtain rfl := hwx.symm
      go_wp2_with fail
      refine KP.mono ?_
      rintro e wx ⟨rfl, hwx⟩
      obtain rfl := hwx.symm
      go_wp2_with fail
      refine (works_any W3).mono ?_
      rintro e W4 ⟨rfl, hb4⟩
      go_wp2_with fail
      go_ret
      exact ⟨rfl, hb03.trans (hb4.mono hb03.size)⟩
    | ok m =>
      rw [hr] at hr2
      obtain ⟨ad2, cc2, rfl, ho2⟩ := hr2
      obtain ⟨ml, hml⟩ : ∃ ml, ml = m.length := ⟨_, rfl⟩
      rw [← hml] at ho2 ⊢
      go_wp2_with fail
      refine (HR.out W2 hb02).mono ?_
      rintro e W3 ⟨hb3, hr3⟩
      rw [hr] at hr3
      obtain ⟨ad3, cc3, rfl, ho3⟩ := hr3
      rw [← hml] at ho3 ⊢
      have hb03 := hb02.trans (hb3.mono hb02.size)
      have hb13 := hb2.trans (hb3.mono hb2.size)
      have S1 := run_txt ((src_own ho2).2.later hb3)
      have S2 := run_txt (src_own ho3).2
      have KP := kept_any W3 g cc len0 cap0 a0 l (hm1.later hb13) hcc (HS.out.later hb03) (by omega)
      generalize txt m = T at *
      clear hr HA HR hm1 hml ho2 ho3
      go_wp2_with fail
      refine (num_any 0 W3).mono ?_
      rintro e wx ⟨rfl, hwx⟩
      obtain rfl := hwx.symm
      go_wp2_with fail
      refine KP.mono ?_
      rintro e wx ⟨rfl, hwx⟩
      obtain rfl := hwx.symm
      go_wp2_with fail
      refine (works_any W3).mono ?_
      rintro e W4 ⟨rfl, hb4⟩
      go_wp2_with fail
      go_ret
      exact ⟨rfl, hb03.trans (hb4.mono hb03.size)⟩)

set_option maxRecDepth 100000 in
theorem lifted (os : Os) (started : os.Started) (H : Type) (enc : TypeId × Value → H) :
    ReturnsInHanded {} Try.checked os 3 .any (Rows.snappyOpensSpec.pre6 enc Try.prog Try.f3 Rows.snappyOpensRow.domain false) (Rows.snappyOpensSpec.post enc Try.prog Try.f3 false true false false) := by
  refine returnsInHanded_of_change (C := Try.checked) own started (by kernel_rfl) Try.func3
    (ChangeSpec.witness6 (enc := enc) (C := Try.checked) false ⟨#[], #[.slice none 0 0, .int .i64 0], []⟩ 8 (by kernel_rfl) (by kernel_rfl) (by kernel_rfl) (by kernel_rfl)) ?_
  intro W base args ds gs before hval0 hW hcnd _
  have hval : ∀ (j : Nat) t v, Try.f3.params[j]? = some t → args[j]? = some v → Value.okWide Try.prog W .any base t v := hval0
  have hW' := hW
  obtain ⟨p, q, hA0, hV, rfl, hfz, hnd⟩ := hW
  have hA : DataW.TrodAll enc Try.prog W 0 (fun _ => true) true Try.f3.params.toList args.toList ds p := hA0
  rw [Try.params3] at hA hval
  obtain ⟨v0, vs0, d0, ds0, p0, q0, hargs, rfl, rfl, h0, r0⟩ := trodAll_cons hA
  obtain ⟨v1, vs1, d1, ds1, p1, q1, rfl, rfl, rfl, h1, r1⟩ := trodAll_cons r0
  obtain ⟨rfl, rfl, rfl⟩ := trodAll_nil r1
  obtain rfl : args = #[v0, v1] := by cases args; simp_all
  obtain ⟨rfl, rfl⟩ := trodVars_none hV
  obtain ⟨a0, len0, cap0, rfl⟩ := okWide_slice Try.underlying22 (hval 0 22 v0 rfl rfl)
  have k0 := h0
  have lt0 : ∀ x ∈ p0, x.block < W.heap.size := by obtain ⟨m, hm⟩ := k0; exact DataW.trod_lt m _ _ _ hm
  obtain ⟨z0, w0⟩ := row_open h0
  obtain ⟨a1, rfl, rfl, rfl, w1⟩ := open_int Try.underlying3 (hval 1 3 v1 rfl rfl) h1
  clear hA0 hval0
  refine (walk a0 len0 cap0 z0 a1 W w0 w1).mono fun e W' ⟨he, bel⟩ => ?_
  subst he
  exact ⟨_, rfl, _, _, _, [], _, [], hW', trodAll_mk1 (shut_bool Try.underlying4 _), (trodAll_cons_mk (Below.trod laidOut (by kernel_rfl) (of_decide_eq_true (by kernel_rfl)) k0 bel lt0) (trodAll_cons_mk (shut_int Try.underlying3 w1) trodAll_mk0)), rfl, bel.frame _, fun h => by cases h⟩

theorem over : Rows.snappyOpensRow.holds Try.pinned (OpenSpec.ofChange Rows.snappyOpensSpec) :=
  OpenClaim.holds_of_wide 3 Try.f3 rfl rfl rfl rfl rfl rfl rfl ⟨rfl, rfl, rfl, rfl, rfl⟩ rfl rfl rfl rfl rfl (by kernel_rfl) Try.func3 (by kernel_rfl)
    (of_decide_eq_true (by kernel_rfl)) (by unfold Func.isWrapper; first | (rw [if_pos (by decide +kernel)]; kernel_rfl) | (rw [if_neg (by decide +kernel)]; exact ⟨rfl, rfl⟩))
    (fun os started H enc _ => lifted os started H enc)

theorem proved : Rows.SnappyOpensSaid := over
#print axioms proved
end Go.Proofs.Ytkkignjenjdjiaa.snappyOpens
namespace Go.Proofs.Ytkkignjenjdjiaa
theorem snappyOpens_holds : Rows.SnappyOpensSaid := snappyOpens.proved
end Go.Proofs.Ytkkignjenjdjiaa
