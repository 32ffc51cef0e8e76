/-
For any bytes (of at most 6000; else the law asks the examples alone) and any number snappy.Length answers the number, or the error, that the reference's Number answers, and snappy.Most the number that the chapter says; what is handed in stays. No condition.
-/
import Derived.Test.YtkkignjenjdjiaaRows
import Derived.Test.YtkkignjenjdjiaaFrame
import Derived.Test.YtkkignjenjdjiaaWorks
import Derived.Test.YtkkignjenjdjiaaRef
import Derived.WalkKit
import Derived.ProofKit
import Derived.OpenShut
import Derived.ShutString
import Derived.ChangeOld
import Derived.Below
namespace Go.Proofs.Ytkkignjenjdjiaa.snappyLengths
open Go.ChangeShapes Go.WideShapes Go.ChangeAt Go.RowKit
set_option linter.unusedVariables false
set_option linter.unusedSimpArgs false

set_option maxRecDepth 100000 in
set_option maxHeartbeats 4000000 in
theorem walk (a0 : Option Addr) (len0 cap0 : Nat) (z0 : List Int) (a1 : Int) (w : World) (w0 : IsRow .u8 w a0 len0 cap0 z0) (w1 : (Lit.int .i64 a1).wf = true) :
    Calls Try.prog 4 #[.slice a0 len0 cap0, .int .i64 a1] w fun e w' => e = .returned (.bool true) ∧ Below w.heap.size w w' := by
  by_cases c : 6000 < len0
  · have c' : (6000 : Int) < (len0 : Int) := by omega
    go_enter Try.func4, Try.ntmps4
    go_wp2_with fail
    refine (works_any w).mono ?_
    rintro e W1 ⟨rfl, hb1⟩
    go_wp2
    go_ret
    exact ⟨rfl, hb1⟩
  have c' : (len0 : Int) ≤ 6000 := by omega
  obtain ⟨l, hl, hB, hs⟩ := row_nat w0
  have LE := lent_any w a0 cap0 len0 l hs (by omega)
  have OA : ∀ W1 g cc, Src W1 (some ⟨g, 0, none⟩) (len0 + 1) cc (c8 (l ++ [77])) → len0 + 1 ≤ cc → ∃ k x : Int, (Calls Try.prog 15 #[.slice (some ⟨g, 0, none⟩) len0 cc] W1 fun e w' => Below W1.heap.size W1 w' ∧ e = .returned (.tuple #[.int .i64 k, .int .i64 x])) ∧ ∀ W2, Below w.heap.size w W2 → Calls Try.prog 16 #[.slice a0 len0 cap0] W2 fun e w' => w' = W2 ∧ ∃ y : Int, e = .returned (.tuple #[.int .i64 k, .int .i64 y, .int .i64 x]) := by
    intro W1 g cc h1 h2
    have h3 := length_any W1 (some ⟨g, 0, none⟩) l cc (by rw [hl]; have := src_take h1 (n := len0) (by omega); rwa [List.take_left' hl] at this) (by omega) hB (by omega)
    rw [hl] at h3
    have h4 : ∀ W2, Below w.heap.size w W2 → _ := fun W2 hW => rnumber_any W2 a0 l cap0 (by rw [hl]; exact hs.later hW) hB (by omega)
    rw [hl] at h4
    cases hn : sNum l with
    | error x =>
      rw [hn] at h3
      simp only [hn] at h4
      exact ⟨0, x, h3, fun W2 hW => (h4 W2 hW).mono fun e w' ⟨k1, k2⟩ => ⟨k1, 0, k2⟩⟩
    | ok nr =>
      obtain ⟨n, r⟩ := nr
      rw [hn] at h3
      simp only [hn] at h4
      exact ⟨n, 0, h3, fun W2 hW => (h4 W2 hW).mono fun e w' ⟨k1, k2⟩ => ⟨k1, _, k2⟩⟩
  have HS : Hid (Src w a0 len0 cap0 (c8 l)) := hs
  have HA : Hid _ := OA
  clear w0 hl hB hs OA
  by_cases d : 0 ≤ a1 ∧ a1 ≤ 1048576
  · obtain ⟨n, rfl⟩ := Int.eq_ofNat_of_zero_le d.1
    have MO := fun W => most_in n W (by omega)
    obtain ⟨d6, hd6⟩ : ∃ d6, d6 = n / 6 := ⟨_, rfl⟩
    have hd6i : (n : Int) / 6 = (d6 : Int) := by omega
    have hd6l : (d6 : Int) ≤ 1048576 := by omega
    have hMe : ((n + n / 6 + 32 : Nat) : Int) = (n : Int) + (d6 : Int) + 32 := by omega
    rw [hMe] at MO
    obtain ⟨M, hM⟩ : ∃ M : Int, M = (n : Int) := ⟨_, rfl⟩
    rw [← hM] at MO d hd6i ⊢
    obtain ⟨d1, d2⟩ := d
    clear hM hd6 hMe w1
    go_enter Try.func4, Try.ntmps4
    go_wp2_with fail
    refine LE.mono ?_
    rintro e W1 ⟨g, cc, rfl, hm1, hcc, hb1⟩
    obtain ⟨k, x, O1, O2⟩ := HA.out W1 g cc hm1 hcc
    go_wp2_with fail
    refine O1.mono ?_
    rintro e W2 ⟨hb2, rfl⟩
    have hb02 := hb1.trans (hb2.mono hb1.size)
    go_wp2_with fail
    refine (O2 W2 hb02).mono ?_
    rintro e wx ⟨hwx, y, rfl⟩
    obtain rfl := hwx.symm
    have KP := kept_any W2 g cc len0 cap0 a0 l (hm1.later hb2) hcc (HS.out.later hb02) (by omega)
    clear O1 O2 HA hm1
    go_wp2_with fail
    refine (num_any x W2).mono ?_
    rintro e wx ⟨rfl, hwx⟩
    obtain rfl := hwx.symm
    go_wp2_with fail
    refine (MO W2).mono ?_
    rintro e wx ⟨rfl, hwx⟩
    obtain rfl := hwx.symm
    go_wp2_with fail
    refine KP.mono ?_
    rintro e wx ⟨rfl, hwx⟩
    obtain rfl := hwx.symm
    go_wp2_with fail
    refine (works_any W2).mono ?_
    rintro e W4 ⟨rfl, hb4⟩
    go_wp2_with fail
    go_ret
    exact ⟨rfl, hb02.trans (hb4.mono hb02.size)⟩
  · have MO := fun W => most_out a1 W (by omega)
    have dd : a1 < 0 ∨ 1048576 < a1 := by omega
    clear w1
    rcases dd with d1 | d1
    · go_enter Try.func4, Try.ntmps4
      go_wp2_with fail
      refine LE.mono ?_
      rintro e W1 ⟨g, cc, rfl, hm1, hcc, hb1⟩
      obtain ⟨k, x, O1, O2⟩ := HA.out W1 g cc hm1 hcc
      go_wp2_with fail
      refine O1.mono ?_
      rintro e W2 ⟨hb2, rfl⟩
      have hb02 := hb1.trans (hb2.mono hb1.size)
      go_wp2_with fail
      refine (O2 W2 hb02).mono ?_
      rintro e wx ⟨hwx, y, rfl⟩
      obtain rfl := hwx.symm
      have KP := kept_any W2 g cc len0 cap0 a0 l (hm1.later hb2) hcc (HS.out.later hb02) (by omega)
      clear O1 O2 HA hm1
      go_wp2_with fail
      refine (num_any x W2).mono ?_
      rintro e wx ⟨rfl, hwx⟩
      obtain rfl := hwx.symm
      go_wp2_with fail
      refine (MO W2).mono ?_
      rintro e wx ⟨rfl, hwx⟩
      obtain rfl := hwx.symm
      go_wp2_with fail
      refine KP.mono ?_
      rintro e wx ⟨rfl, hwx⟩
      obtain rfl := hwx.symm
      go_wp2_with fail
      refine (works_any W2).mono ?_
      rintro e W4 ⟨rfl, hb4⟩
      go_wp2_with fail
      go_ret
      exact ⟨rfl, hb02.trans (hb4.mono hb02.size)⟩
    · have d0 : 0 ≤ a1 := by omega
      go_enter Try.func4, Try.ntmps4
      go_wp2_with fail
      refine LE.mono ?_
      rintro e W1 ⟨g, cc, rfl, hm1, hcc, hb1⟩
      obtain ⟨k, x, O1, O2⟩ := HA.out W1 g cc hm1 hcc
      go_wp2_with fail
      refine O1.mono ?_
      rintro e W2 ⟨hb2, rfl⟩
      have hb02 := hb1.trans (hb2.mono hb1.size)
      go_wp2_with fail
      refine (O2 W2 hb02).mono ?_
      rintro e wx ⟨hwx, y, rfl⟩
      obtain rfl := hwx.symm
      have KP := kept_any W2 g cc len0 cap0 a0 l (hm1.later hb2) hcc (HS.out.later hb02) (by omega)
      clear O1 O2 HA hm1
      go_wp2_with fail
      refine (num_any x W2).mono ?_
      rintro e wx ⟨rfl, hwx⟩
      obtain rfl := hwx.symm
      go_wp2_with fail
      refine (MO W2).mono ?_
      rintro e wx ⟨rfl, hwx⟩
      obtain rfl := hwx.symm
      go_wp2_with fail
      refine KP.mono ?_
      rintro e wx ⟨rfl, hwx⟩
      obtain rfl := hwx.symm
      go_wp2_with fail
      refine (works_any W2).mono ?_
      rintro e W4 ⟨rfl, hb4⟩
      go_wp2_with fail
      go_ret
      exact ⟨rfl, hb02.trans (hb4.mono hb02.size)⟩

set_option maxRecDepth 100000 in
theorem lifted (os : Os) (started : os.Started) (H : Type) (enc : TypeId × Value → H) :
    ReturnsInHanded {} Try.checked os 4 .any (Rows.snappyLengthsSpec.pre6 enc Try.prog Try.f4 Rows.snappyLengthsRow.domain false) (Rows.snappyLengthsSpec.post enc Try.prog Try.f4 false true false false) := by
  refine returnsInHanded_of_change (C := Try.checked) own started (by kernel_rfl) Try.func4
    (ChangeSpec.witness6 (enc := enc) (C := Try.checked) false ⟨#[], #[.slice none 0 0, .int .i64 0], []⟩ 8 (by kernel_rfl) (by kernel_rfl) (by kernel_rfl) (by kernel_rfl)) ?_
  intro W base args ds gs before hval0 hW hcnd _
  have hval : ∀ (j : Nat) t v, Try.f4.params[j]? = some t → args[j]? = some v → Value.okWide Try.prog W .any base t v := hval0
  have hW' := hW
  obtain ⟨p, q, hA0, hV, rfl, hfz, hnd⟩ := hW
  have hA : DataW.TrodAll enc Try.prog W 0 (fun _ => true) true Try.f4.params.toList args.toList ds p := hA0
  rw [Try.params4] at hA hval
  obtain ⟨v0, vs0, d0, ds0, p0, q0, hargs, rfl, rfl, h0, r0⟩ := trodAll_cons hA
  obtain ⟨v1, vs1, d1, ds1, p1, q1, rfl, rfl, rfl, h1, r1⟩ := trodAll_cons r0
  obtain ⟨rfl, rfl, rfl⟩ := trodAll_nil r1
  obtain rfl : args = #[v0, v1] := by cases args; simp_all
  obtain ⟨rfl, rfl⟩ := trodVars_none hV
  obtain ⟨a0, len0, cap0, rfl⟩ := okWide_slice Try.underlying22 (hval 0 22 v0 rfl rfl)
  have k0 := h0
  have lt0 : ∀ x ∈ p0, x.block < W.heap.size := by obtain ⟨m, hm⟩ := k0; exact DataW.trod_lt m _ _ _ hm
  obtain ⟨z0, w0⟩ := row_open h0
  obtain ⟨a1, rfl, rfl, rfl, w1⟩ := open_int Try.underlying3 (hval 1 3 v1 rfl rfl) h1
  clear hA0 hval0
  refine (walk a0 len0 cap0 z0 a1 W w0 w1).mono fun e W' ⟨he, bel⟩ => ?_
  subst he
  exact ⟨_, rfl, _, _, _, [], _, [], hW', trodAll_mk1 (shut_bool Try.underlying4 _), (trodAll_cons_mk (Below.trod laidOut (by kernel_rfl) (of_decide_eq_true (by kernel_rfl)) k0 bel lt0) (trodAll_cons_mk (shut_int Try.underlying3 w1) trodAll_mk0)), rfl, bel.frame _, fun h => by cases h⟩

theorem over : Rows.snappyLengthsRow.holds Try.pinned (OpenSpec.ofChange Rows.snappyLengthsSpec) :=
  OpenClaim.holds_of_wide 4 Try.f4 rfl rfl rfl rfl rfl rfl rfl ⟨rfl, rfl, rfl, rfl, rfl⟩ rfl rfl rfl rfl rfl (by kernel_rfl) Try.func4 (by kernel_rfl)
    (of_decide_eq_true (by kernel_rfl)) (by unfold Func.isWrapper; first | (rw [if_pos (by decide +kernel)]; kernel_rfl) | (rw [if_neg (by decide +kernel)]; exact ⟨rfl, rfl⟩))
    (fun os started H enc _ => lifted os started H enc)

theorem proved : Rows.SnappyLengthsSaid := over
#print axioms proved
end Go.Proofs.Ytkkignjenjdjiaa.snappyLengths
namespace Go.Proofs.Ytkkignjenjdjiaa
theorem snappyLengths_holds : Rows.SnappyLengthsSaid := snappyLengths.proved
end Go.Proofs.Ytkkignjenjdjiaa
