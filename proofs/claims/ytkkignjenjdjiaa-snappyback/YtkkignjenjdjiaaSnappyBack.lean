/-
For any bytes (of at most 6000; else the law asks the examples alone) and any bound snappy.Squeeze answers a block of no more bytes than Most tells, whose Length is that of the bytes; Open of it is the bytes, by each bound that is great enough, ErrLong by a lesser one, ErrArg by one that may not be. No condition.
-/
import Derived.Test.YtkkignjenjdjiaaRows
import Derived.Test.YtkkignjenjdjiaaFrame
import Derived.Test.YtkkignjenjdjiaaWorks
import Derived.WalkKit
import Derived.ProofKit
import Derived.OpenShut
import Derived.ShutString
import Derived.ChangeOld
import Derived.Below
namespace Go.Proofs.Ytkkignjenjdjiaa.snappyBack
open Go.ChangeShapes Go.WideShapes Go.ChangeAt Go.RowKit
set_option linter.unusedVariables false
set_option linter.unusedSimpArgs false

set_option maxRecDepth 100000 in
set_option maxHeartbeats 4000000 in
theorem walk (a0 : Option Addr) (len0 cap0 : Nat) (z0 : List Int) (a1 : Int) (w : World) (w0 : IsRow .u8 w a0 len0 cap0 z0) (w1 : (Lit.int .i64 a1).wf = true) :
    Calls Try.prog 7 #[.slice a0 len0 cap0, .int .i64 a1] w fun e w' => e = .returned (.bool true) ∧ Below w.heap.size w w' := by
  by_cases c : 6000 < len0
  · have c' : (6000 : Int) < (len0 : Int) := by omega
    go_enter Try.func7, Try.ntmps7
    go_wp2_with fail
    refine (works_any w).mono ?_
    rintro e W1 ⟨rfl, hb1⟩
    go_wp2
    go_ret
    exact ⟨rfl, hb1⟩
  have c' : (len0 : Int) ≤ 6000 := by omega
  obtain ⟨l, hl, hB, hs⟩ := row_nat w0
  have hcap : len0 ≤ cap0 := by have := w0.len_le; omega
  have Z := squeeze_src w a0 l cap0 (by rw [hl]; exact hs) hB (by omega) (by omega)
  rw [hl] at Z
  have MO := fun W => most_in len0 W (by omega)
  obtain ⟨mo, hmo⟩ : ∃ mo, mo = len0 + len0 / 6 + 32 := ⟨_, rfl⟩
  rw [← hmo] at MO
  have LA : ∀ W ad cc k, Src W ad k.length cc (c8 k) → k.length ≤ cc → Sqz l k → (Calls Try.prog 15 #[.slice ad k.length cc] W fun e w' => Below W.heap.size W w' ∧ e = .returned (.tuple #[.int .i64 (len0 : Int), .int .i64 0])) := by
    intro W ad cc k h1 h2 h3
    have h4 := sqz_len h3 (by omega)
    have h5 := length_any W ad k cc h1 h2 h3.b8 (by omega)
    obtain ⟨r, hr⟩ := sqz_num h3 (by omega)
    rw [hr] at h5
    rw [hl] at h5
    exact h5
  have OA : ∀ W ad cc k, Src W ad k.length cc (c8 k) → k.length ≤ cc → Sqz l k → Calls Try.prog 11 #[.slice ad k.length cc, .int .i64 a1] W fun e w' => Below W.heap.size W w' ∧ ∃ ad3 n3 cc3 x, e = .returned (.tuple #[.slice ad3 n3 cc3, .int .i64 x]) ∧ ((a1 < 0 ∨ 1048576 < a1) ∧ n3 = 0 ∧ x = 2 ∨ (0 ≤ a1 ∧ a1 ≤ 1048576 ∧ a1 < (len0 : Int)) ∧ n3 = 0 ∧ x = 3 ∨ (0 ≤ a1 ∧ a1 ≤ 1048576 ∧ (len0 : Int) ≤ a1) ∧ n3 = len0 ∧ x = 0 ∧ Src w' ad3 len0 cc3 (c8 l)) := by
    intro W ad cc k h1 h2 h3
    have h4 := sqz_len h3 (by omega)
    have h5 := open_any W ad k cc a1 h1 h2 h3.b8 (by omega)
    rw [sqz_open h3 (by omega)] at h5
    by_cases b1 : a1 < 0 ∨ 1048576 < a1
    · rw [if_pos b1] at h5
      exact h5.mono fun e w' ⟨q1, q2⟩ => ⟨q1, none, 0, 0, 2, q2, .inl ⟨b1, rfl, rfl⟩⟩
    · rw [if_neg b1, hl] at h5
      by_cases b2 : a1 < (len0 : Int)
      · rw [if_pos b2] at h5
        exact h5.mono fun e w' ⟨q1, q2⟩ => ⟨q1, none, 0, 0, 3, q2, .inr (.inl ⟨⟨by omega, by omega, b2⟩, rfl, rfl⟩)⟩
      · rw [if_neg b2] at h5
        refine h5.mono fun e w' ⟨q1, ad3, cc3, q2, q3⟩ => ⟨q1, ad3, l.length, cc3, 0, q2, .inr (.inr ⟨⟨by omega, by omega, by omega⟩, hl, rfl, ?_⟩)⟩
        have := (src_own q3).2
        rwa [hl] at this
  have HS : Hid (Src w a0 len0 cap0 (c8 l)) := hs
  have HL : Hid _ := LA
  have HO : Hid _ := OA
  have HM : Hid (mo = len0 + len0 / 6 + 32) := hmo
  have HLL : Hid (l.length = len0) := hl
  clear w0 w1 hl hB hs LA OA hmo
  go_enter Try.func7, Try.ntmps7
  go_wp2_with fail
  refine Z.mono ?_
  rintro e W1 ⟨k, ad1, cc1, rfl, hs1, hc1, hq, hb1⟩
  have hkl := sqz_len hq (by have := HLL.out; omega)
  have L1 := HL.out W1 ad1 cc1 k hs1 hc1 hq
  have O1 := fun W (h : Below W1.heap.size W1 W) => HO.out W ad1 cc1 k (hs1.later h) hc1 hq
  have hko : k.length ≤ mo := by rw [HLL.out] at hkl; have := HM.out; omega
  obtain ⟨kl, hkd⟩ : ∃ kl, kl = k.length := ⟨_, rfl⟩
  rw [← hkd] at L1 O1 hko ⊢
  have hko' : (kl : Int) ≤ (mo : Int) := by omega
  have hkob : decide ((mo : Int) < (kl : Int)) = false := by rw [decide_eq_false_iff_not]; omega
  clear Z hkd hkl HL HO hs1 hq HM
  go_wp2_with fail
  refine L1.mono ?_
  rintro e W2 ⟨hb2, rfl⟩
  have hb02 := hb1.trans (hb2.mono hb1.size)
  go_wp2_with fail
  refine (O1 W2 hb2).mono ?_
  rintro e W3 ⟨hb3, ad3, n3, cc3, x, rfl, hcase⟩
  have hb03 := hb02.trans (hb3.mono hb02.size)
  have HC : Hid _ := hcase
  clear O1 L1 hcase
  go_wp2_with fail
  refine (num_any 0 W3).mono ?_
  rintro e wx ⟨rfl, hwx⟩
  obtain rfl := hwx.symm
  go_wp2_with fail
  refine (num_any 0 W3).mono ?_
  rintro e wx ⟨rfl, hwx⟩
  obtain rfl := hwx.symm
  go_wp2_with fail
  refine (MO W3).mono ?_
  rintro e wx ⟨rfl, hwx⟩
  obtain rfl := hwx.symm
  have WK := works_any W3
  rcases HC.out with ⟨hcond, rfl, rfl⟩ | ⟨⟨q1, q2, q3⟩, rfl, rfl⟩ | ⟨⟨q1, q2, q3⟩, rfl, rfl, hs3⟩
  · rcases hcond with q1 | q1
    · clear HC
      go_wp2_with fail
      refine (num_any 2 W3).mono ?_
      rintro e wx ⟨rfl, hwx⟩
      obtain rfl := hwx.symm
      go_wp2_with fail
      refine WK.mono ?_
      rintro e W4 ⟨rfl, hb4⟩
      go_wp2_with fail
      go_ret
      exact ⟨rfl, hb03.trans (hb4.mono hb03.size)⟩
    · have q0 : ¬ a1 < 0 := by omega
      clear HC
      go_wp2_with fail
      refine (num_any 2 W3).mono ?_
      rintro e wx ⟨rfl, hwx⟩
      obtain rfl := hwx.symm
      go_wp2_with fail
      refine WK.mono ?_
      rintro e W4 ⟨rfl, hb4⟩
      go_wp2_with fail
      go_ret
      exact ⟨rfl, hb03.trans (hb4.mono hb03.size)⟩
  · clear HC
    go_wp2_with fail
    refine (num_any 3 W3).mono ?_
    rintro e wx ⟨rfl, hwx⟩
    obtain rfl := hwx.symm
    go_wp2_with fail
    refine WK.mono ?_
    rintro e W4 ⟨rfl, hb4⟩
    go_wp2_with fail
    go_ret
    exact ⟨rfl, hb03.trans (hb4.mono hb03.size)⟩
  · have S1 := run_txt hs3
    have S2 := run_txt (HS.out.later hb03)
    generalize txt l = T at *
    clear HC hs3
    go_wp2_with fail
    refine (num_any 0 W3).mono ?_
    rintro e wx ⟨rfl, hwx⟩
    obtain rfl := hwx.symm
    go_wp2_with fail
    refine WK.mono ?_
    rintro e W4 ⟨rfl, hb4⟩
    go_wp2_with fail
    go_ret
    exact ⟨rfl, hb03.trans (hb4.mono hb03.size)⟩

set_option maxRecDepth 100000 in
theorem lifted (os : Os) (started : os.Started) (H : Type) (enc : TypeId × Value → H) :
    ReturnsInHanded {} Try.checked os 7 .any (Rows.snappyBackSpec.pre6 enc Try.prog Try.f7 Rows.snappyBackRow.domain false) (Rows.snappyBackSpec.post enc Try.prog Try.f7 false true false false) := by
  refine returnsInHanded_of_change (C := Try.checked) own started (by kernel_rfl) Try.func7
    (ChangeSpec.witness6 (enc := enc) (C := Try.checked) false ⟨#[], #[.slice none 0 0, .int .i64 0], []⟩ 8 (by kernel_rfl) (by kernel_rfl) (by kernel_rfl) (by kernel_rfl)) ?_
  intro W base args ds gs before hval0 hW hcnd _
  have hval : ∀ (j : Nat) t v, Try.f7.params[j]? = some t → args[j]? = some v → Value.okWide Try.prog W .any base t v := hval0
  have hW' := hW
  obtain ⟨p, q, hA0, hV, rfl, hfz, hnd⟩ := hW
  have hA : DataW.TrodAll enc Try.prog W 0 (fun _ => true) true Try.f7.params.toList args.toList ds p := hA0
  rw [Try.params7] at hA hval
  obtain ⟨v0, vs0, d0, ds0, p0, q0, hargs, rfl, rfl, h0, r0⟩ := trodAll_cons hA
  obtain ⟨v1, vs1, d1, ds1, p1, q1, rfl, rfl, rfl, h1, r1⟩ := trodAll_cons r0
  obtain ⟨rfl, rfl, rfl⟩ := trodAll_nil r1
  obtain rfl : args = #[v0, v1] := by cases args; simp_all
  obtain ⟨rfl, rfl⟩ := trodVars_none hV
  obtain ⟨a0, len0, cap0, rfl⟩ := okWide_slice Try.underlying22 (hval 0 22 v0 rfl rfl)
  have k0 := h0
  have lt0 : ∀ x ∈ p0, x.block < W.heap.size := by obtain ⟨m, hm⟩ := k0; exact DataW.trod_lt m _ _ _ hm
  obtain ⟨z0, w0⟩ := row_open h0
  obtain ⟨a1, rfl, rfl, rfl, w1⟩ := open_int Try.underlying3 (hval 1 3 v1 rfl rfl) h1
  clear hA0 hval0
  refine (walk a0 len0 cap0 z0 a1 W w0 w1).mono fun e W' ⟨he, bel⟩ => ?_
  subst he
  exact ⟨_, rfl, _, _, _, [], _, [], hW', trodAll_mk1 (shut_bool Try.underlying4 _), (trodAll_cons_mk (Below.trod laidOut (by kernel_rfl) (of_decide_eq_true (by kernel_rfl)) k0 bel lt0) (trodAll_cons_mk (shut_int Try.underlying3 w1) trodAll_mk0)), rfl, bel.frame _, fun h => by cases h⟩

theorem over : Rows.snappyBackRow.holds Try.pinned (OpenSpec.ofChange Rows.snappyBackSpec) :=
  OpenClaim.holds_of_wide 7 Try.f7 rfl rfl rfl rfl rfl rfl rfl ⟨rfl, rfl, rfl, rfl, rfl⟩ rfl rfl rfl rfl rfl (by kernel_rfl) Try.func7 (by kernel_rfl)
    (of_decide_eq_true (by kernel_rfl)) (by unfold Func.isWrapper; first | (rw [if_pos (by decide +kernel)]; kernel_rfl) | (rw [if_neg (by decide +kernel)]; exact ⟨rfl, rfl⟩))
    (fun os started H enc _ => lifted os started H enc)

theorem proved : Rows.SnappyBackSaid := over
#print axioms proved
end Go.Proofs.Ytkkignjenjdjiaa.snappyBack
namespace Go.Proofs.Ytkkignjenjdjiaa
theorem snappyBack_holds : Rows.SnappyBackSaid := snappyBack.proved
end Go.Proofs.Ytkkignjenjdjiaa
