/-
For any two rows of data (at most 50 each): Same is true just if all three fields are the same, SameAll just if each is, as the reference's. No condition.
-/
import Derived.Test.YtndeglamnnipoaaRows
import Derived.Test.YtndeglamnnipoaaFrame
import Derived.Test.YtndeglamnnipoaaSm
import Derived.Test.YtndeglamnnipoaaDat
import Derived.Lib.QuietBelow
import Derived.BigQuiet
import Derived.WalkKit
import Derived.ProofKit
import Derived.OpenShut
import Derived.ShutString
import Derived.ChangeOld
import Derived.Below
namespace Go.Proofs.Ytndeglamnnipoaa.datumSame
open Go.ChangeShapes Go.WideShapes Go.ChangeAt Go.RowKit Go.Deep Go.Sort
set_option linter.unusedVariables false
set_option linter.unusedSimpArgs false

set_option maxRecDepth 100000 in
set_option maxHeartbeats 4000000 in
theorem walk (a0 : Option Addr) (len0 cap0 : Nat) (l0 : List Dat) (a1 : Option Addr) (len1 cap1 : Nat) (l1 : List Dat) (w : World) (w0 : Data w a0 len0 cap0 l0) (w1 : Data w a1 len1 cap1 l1) :
    Calls Try.prog 5 #[.slice a0 len0 cap0, .slice a1 len1 cap1] w fun e w' => e = .returned (.bool true) ∧ Below w.heap.size w w' := by
  have hl0 := w0.1
  have hl1 := w1.1
  by_cases h50 : len0 ≤ 50 ∧ len1 ≤ 50
  case neg =>
    have q0 := w0.2.2.1
    have q1 := w1.2.2.1
    by_cases hp : len0 ≤ 50
    · have hp' : (len0 : Int) ≤ 50 := by omega
      have hq' : ¬ (len1 : Int) ≤ 50 := by omega
      have hq2 : (50 : Int) < (len1 : Int) := by omega
      clear w0 w1 hl0 hl1 h50
      go_enter Try.func5, Try.ntmps5
      go_wp2_with fail
      go_ret
      exact ⟨rfl, Below.refl _ _⟩
    · have hq2 : (50 : Int) < (len0 : Int) := by omega
      clear w0 w1 hl0 hl1 h50
      go_enter Try.func5, Try.ntmps5
      go_wp2_with fail
      go_ret
      exact ⟨rfl, Below.refl _ _⟩
  obtain ⟨hp, hq⟩ := h50
  have hp' : (len0 : Int) ≤ 50 := by omega
  have hq' : (len1 : Int) ≤ 50 := by omega
  go_enter Try.func5, Try.ntmps5
  go_wp2_with fail
  go_loopw [5] (fun iv wr => ∃ i : Nat, i ≤ len0 ∧ i ≤ len1 ∧ iv = .int .i64 (i : Int) ∧ Below w.heap.size w wr) (fun iv _ => len0 - (intOf iv).toNat)
  case atStart => exact ⟨0, Nat.zero_le _, Nat.zero_le _, rfl, Below.refl _ _⟩
  case round =>
    obtain ⟨i, hi, hj, rfl, hb⟩ := hrel
    by_cases hlt : i < len0 ∧ i < len1
    · obtain ⟨l1, l2⟩ := hlt
      have l1' : (i : Int) < (len0 : Int) := by omega
      have l2' : (i : Int) < (len1 : Int) := by omega
      obtain ⟨d, g, o, hd, wd, rfl, hg, c0, c1, c2⟩ := data_at (w0.later hb) l1
      obtain ⟨e, g', o', he, we, rfl, hg', d0, d1, d2⟩ := data_at (w1.later hb) l2
      have r0 := cell_regrown c0; have r1 := cell_regrown c1; have r2 := cell_regrown c2; have s0 := cell_regrown d0; have s1 := cell_regrown d1; have s2 := cell_regrown d2
      have RE := fun W => run_eqD d e W
      have R : ∀ x os, Calls Try.prog 14 #[.agg #[.int .i64 d.k, .int .i64 d.n, .string d.s], .agg #[.int .i64 e.k, .int .i64 e.n, .string e.s]] (grow (redrawn wr x) os) fun r w'' => r = .returned (.bool (sameD d e)) ∧ ∃ p : Regrown, w'' = grow (redrawn wr p.d) p.os := fun x os => Calls.regrown_of (same_any d e _)
      clear hd he wd we
      generalize sameD d e = t at *
      go_wp2_with fail
      refine wp_region_quiet_below (by kernel_rfl) (by kernel_rfl) ?_
      repeat (go_big_quiet_step (with_reducible exact R _ _))
      refine wpQuiet_nil ?_
      intro _ hw'
      obtain ⟨⟨dq, osq⟩, hw''⟩ := hw'
      subst hw''
      have hqq := below_regrown wr dq osq
      generalize grow (redrawn wr dq) osq = wq at *
      clear r0 r1 r2 s0 s1 s2 c0 c1 c2 d0 d1 d2 R RE
      have hb2 := hb.trans (hqq.mono hb.size)
      cases t
      all_goals
        go_wp2_with fail
        go_roundw
        case rel => exact ⟨i + 1, by omega, by omega, by go_num, hb2⟩
        case measure => simp [intOf]; omega
    · have R1 := fun W (h : Below w.heap.size w W) => sameAll_any W a0 a1 len0 cap0 len1 cap1 l0 l1 (w0.later h) (w1.later h)
      have R2 := fun W (h : Below w.heap.size w W) => rsameAll_any W a0 a1 len0 cap0 len1 cap1 l0 l1 (w0.later h) (w1.later h)
      have R3 := fun W (h : Below w.heap.size w W) => sameAll_any W a0 a0 len0 cap0 len0 cap0 l0 l0 (w0.later h) (w0.later h)
      rw [sameL_refl] at R3
      generalize sameL l0 l1 = t at *
      by_cases l1 : i < len0
      · have l1' : (i : Int) < (len0 : Int) := by omega
        have l2' : ¬ (i : Int) < (len1 : Int) := by omega
        clear hlt
        go_wp2_with fail
        refine (R1 _ hb).mono ?_
        rintro r wx ⟨rfl, hwx⟩
        have hb2 := hb.trans (hwx.mono hb.size)
        go_wp2_with fail
        refine (R2 _ hb2).mono ?_
        rintro r wy ⟨rfl, hwy⟩
        have hb3 := hb2.trans (hwy.mono hb2.size)
        cases t
        all_goals
          go_wp2_with fail
          refine (R3 _ hb3).mono ?_
          rintro r wz ⟨rfl, hwz⟩
          go_wp2_with fail
          go_ret
          exact ⟨rfl, hb3.trans (hwz.mono hb3.size)⟩
      · have l1' : ¬ (i : Int) < (len0 : Int) := by omega
        clear hlt
        go_wp2_with fail
        refine (R1 _ hb).mono ?_
        rintro r wx ⟨rfl, hwx⟩
        have hb2 := hb.trans (hwx.mono hb.size)
        go_wp2_with fail
        refine (R2 _ hb2).mono ?_
        rintro r wy ⟨rfl, hwy⟩
        have hb3 := hb2.trans (hwy.mono hb2.size)
        cases t
        all_goals
          go_wp2_with fail
          refine (R3 _ hb3).mono ?_
          rintro r wz ⟨rfl, hwz⟩
          go_wp2_with fail
          go_ret
          exact ⟨rfl, hb3.trans (hwz.mono hb3.size)⟩

set_option maxRecDepth 100000 in
theorem lifted (os : Os) (started : os.Started) (H : Type) (enc : TypeId × Value → H) :
    ReturnsInHanded {} Try.checked os 5 .any (Rows.datumSameSpec.pre6 enc Try.prog Try.f5 Rows.datumSameRow.domain false) (Rows.datumSameSpec.post enc Try.prog Try.f5 false true false false) := by
  refine returnsInHanded_of_change_sized (C := Try.checked) own started (by kernel_rfl) Try.func5
    (ChangeSpec.witness6 (enc := enc) (C := Try.checked) false ⟨#[], #[.slice none 0 0, .slice none 0 0], []⟩ 8 (by kernel_rfl) (by kernel_rfl) (by kernel_rfl) (by kernel_rfl)) ?_
  intro W base args ds gs before hval0 hW hcnd hsz0 _
  have hsz : (DataW.weightsEach Try.prog (Try.f5.params.toList ++ Rows.datumSameSpec.plain.varTypes Try.prog) (ds ++ gs)).all (· ≤ reachBytes) = true := hsz0
  clear hsz0
  have hval : ∀ (j : Nat) t v, Try.f5.params[j]? = some t → args[j]? = some v → Value.okWide Try.prog W .any base t v := hval0
  have hW' := hW
  obtain ⟨p, q, hA0, hV, rfl, hfz, hnd⟩ := hW
  have hA : DataW.TrodAll enc Try.prog W 0 (fun _ => true) true Try.f5.params.toList args.toList ds p := hA0
  rw [Try.params5] at hA hval hsz
  obtain ⟨v0, vs0, d0, ds0, p0, q0, hargs, rfl, rfl, h0, r0⟩ := trodAll_cons hA
  obtain ⟨v1, vs1, d1, ds1, p1, q1, rfl, rfl, rfl, h1, r1⟩ := trodAll_cons r0
  obtain ⟨rfl, rfl, rfl⟩ := trodAll_nil r1
  obtain rfl : args = #[v0, v1] := by cases args; simp_all
  obtain ⟨rfl, rfl⟩ := trodVars_none hV
  have e0 := h0
  have lt0 : ∀ x ∈ p0, x.block < W.heap.size := by obtain ⟨m, hm⟩ := e0; exact DataW.trod_lt m _ _ _ hm
  obtain ⟨a0, len0, cap0, l0, rfl, w0⟩ := arg_data hsz 0 rfl rfl (hval 0 31 v0 rfl rfl) h0
  have e1 := h1
  have lt1 : ∀ x ∈ p1, x.block < W.heap.size := by obtain ⟨m, hm⟩ := e1; exact DataW.trod_lt m _ _ _ hm
  obtain ⟨a1, len1, cap1, l1, rfl, w1⟩ := arg_data hsz 1 rfl rfl (hval 1 31 v1 rfl rfl) h1
  clear hA0 hval0
  refine (walk a0 len0 cap0 l0 a1 len1 cap1 l1 W w0 w1).mono fun e W' ⟨he, bel⟩ => ?_
  subst he
  exact ⟨_, rfl, _, _, _, [], _, [], hW', trodAll_mk1 (shut_bool Try.underlying4 _), (trodAll_cons_mk (Below.trod laidOut (by kernel_rfl) (of_decide_eq_true (by kernel_rfl)) e0 bel lt0) (trodAll_cons_mk (Below.trod laidOut (by kernel_rfl) (of_decide_eq_true (by kernel_rfl)) e1 bel lt1) trodAll_mk0)), rfl, bel.frame _, fun h => by cases h⟩

theorem over : Rows.datumSameRow.holds Try.pinned (OpenSpec.ofChange Rows.datumSameSpec) :=
  OpenClaim.holds_of_wide 5 Try.f5 rfl rfl rfl rfl rfl rfl rfl ⟨rfl, rfl, rfl, rfl, rfl⟩ rfl rfl rfl rfl rfl (by kernel_rfl) Try.func5 (by kernel_rfl)
    (of_decide_eq_true (by kernel_rfl)) (by unfold Func.isWrapper; first | (rw [if_pos (by decide +kernel)]; kernel_rfl) | (rw [if_neg (by decide +kernel)]; exact ⟨rfl, rfl⟩))
    (fun os started H enc _ => lifted os started H enc)

theorem proved : Rows.DatumSameSaid := over
#print axioms proved
end Go.Proofs.Ytndeglamnnipoaa.datumSame
namespace Go.Proofs.Ytndeglamnnipoaa
theorem datumSame_holds : Rows.DatumSameSaid := datumSame.proved
end Go.Proofs.Ytndeglamnnipoaa
