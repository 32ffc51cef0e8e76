/-
For any size and any whole numbers (at most 400; else the law says nothing): dict.Write answers as the document's Write of a dictionary, with the same bytes and the same refusal; what was handed in stays. No condition.
-/
import Derived.Test.YtlajjkpcgokinaaRows
import Derived.Test.YtlajjkpcgokinaaFrame
import Derived.Test.YtlajjkpcgokinaaDkW
import Derived.WalkKit
import Derived.ProofKit
import Derived.OpenShut
import Derived.ShutString
import Derived.ChangeOld
import Derived.ChangeMaps5
import Derived.Below
namespace Go.Proofs.Ytlajjkpcgokinaa.dictWrite
open Go.ChangeShapes Go.WideShapes Go.ChangeAt Go.RowKit Go.Deep Go.Sort
set_option linter.unusedVariables false
set_option linter.unusedSimpArgs false

set_option maxRecDepth 100000 in
set_option maxHeartbeats 4000000 in
theorem walk (a0 : Int) (a1 : Option Addr) (len1 cap1 : Nat) (l1 : List Int) (w : World) (w0 : (Lit.int .i64 a0).wf = true) (w1 : IntRow w a1 len1 cap1 l1) :
    Calls Try.prog 4 #[.int .i64 a0, .slice a1 len1 cap1] w fun e w' => e = .returned (.bool true) ∧ Below w.heap.size w w' := by
  by_cases hbig : 400 < len1
  · have hbig' : (400 : Int) < (len1 : Int) := by omega
    go_enter Try.func4, Try.ntmps4
    go_wp2_with fail
    go_ret
    exact ⟨rfl, Below.refl _ _⟩
  have hbig' : (len1 : Int) ≤ 400 := by omega
  have hsrc := w1.src
  have hi64 := w1.i64
  have hroom := w1.room
  have hRW := fun W2 (hb2 : Below w.heap.size w W2) => rdwrite_any a1 len1 cap1 a0 l1 W2 (by omega) (Src.later hsrc hb2) hi64
  by_cases hno : dErr a0 l1 = 0
  · obtain ⟨s, hs0, hs6, hall⟩ := dErr_ok hno
    have hWY := dwrite_yes a1 len1 cap1 s l1 w (by omega) hroom hsrc hi64 hs6 hall
    rw [← hs0] at hWY
    have HS0 : Hid (a0 = (s : Int)) := hs0
    rw [hno] at hRW
    clear hno hs0 hall hs6
    go_enter Try.func4, Try.ntmps4
    go_wp2_with fail
    refine hWY.mono ?_
    rintro e W2 ⟨v2, rfl, hown2, hb2⟩
    obtain ⟨a2, c2, rfl⟩ := own_sl hown2
    go_wp2_with fail
    refine (hRW W2 hb2).mono ?_
    rintro e W3 ⟨hb3, v3, rfl, hcase⟩
    have hown3 : W3.ownsRow W2.heap.size 5 1 v3 (dOut s l1).length ((dOut s l1).map (Value.int .u8)) := by
      rcases hcase with ⟨h, _⟩ | ⟨n, hn, _, _, h⟩
      · exact absurd rfl h
      · have e := HS0.out
        have : s = n := by omega
        subst this
        exact h
    clear hcase
    obtain ⟨a3, c3, rfl⟩ := own_sl hown3
    have hb03 := hb2.trans (hb3.mono hb2.size)
    have cv1 := fun X (h : Below W3.heap.size W3 X) => str_own (own_below (own_below hown2 hb3) h)
    have cv2 := fun X (h : Below W3.heap.size W3 X) => str_own (own_below hown3 h)
    have cc1 := cv1 W3 (Below.refl _ _)
    have cc2 := cv2 W3 (Below.refl _ _)
    clear hown2 hown3 hWY hRW
    generalize dOut s l1 = T at *
    go_wp2_with fail
    go_ret
    exact ⟨by simp, hb03⟩
  · have hWN := dwrite_no a1 len1 cap1 a0 l1 w (by omega) hsrc hno
    have HNO : Hid (dErr a0 l1 ≠ 0) := hno
    generalize dErr a0 l1 = er at *
    clear hno
    go_enter Try.func4, Try.ntmps4
    go_wp2_with fail
    refine hWN.mono ?_
    rintro e W2 ⟨rfl, hb2⟩
    go_wp2_with fail
    refine (hRW W2 hb2).mono ?_
    rintro e W3 ⟨hb3, v3, rfl, hcase⟩
    have hv3 : v3 = .slice none 0 0 := by
      rcases hcase with ⟨_, h⟩ | ⟨n, hn, _, h0, _⟩
      · exact h
      · exact absurd h0 HNO.out
    subst hv3
    clear hcase
    have hb03 := hb2.trans (hb3.mono hb2.size)
    have cc1 := strAt_nil W3 W3 (Below.refl _ _)
    clear hWN hRW
    go_wp2_with fail
    go_ret
    exact ⟨by simp, hb03⟩

set_option maxRecDepth 100000 in
theorem lifted (os : Os) (started : os.Started) (H : Type) (enc : TypeId × Value → H) :
    ReturnsInHanded {} Try.checked os 4 .any (Rows.dictWriteSpec.pre6 enc Try.prog Try.f4 Rows.dictWriteRow.domain false) (Rows.dictWriteSpec.post enc Try.prog Try.f4 false true false false) := by
  refine returnsInHanded_of_change_sized (C := Try.checked) own started (by kernel_rfl) Try.func4
    (ChangeSpec.witness6 (enc := enc) (C := Try.checked) false ⟨#[], #[.int .i64 0, .slice none 0 0], []⟩ 8 (by kernel_rfl) (by kernel_rfl) (by kernel_rfl) (by kernel_rfl)) ?_
  intro W base args ds gs before hval0 hW hcnd hsz0 _
  have hsz : (DataW.weightsEach Try.prog (Try.f4.params.toList ++ Rows.dictWriteSpec.plain.varTypes Try.prog) (ds ++ gs)).all (· ≤ reachBytes) = true := hsz0
  clear hsz0
  have hval : ∀ (j : Nat) t v, Try.f4.params[j]? = some t → args[j]? = some v → Value.okWide Try.prog W .any base t v := hval0
  have hW' := hW
  obtain ⟨p, q, hA0, hV, rfl, hfz, hnd⟩ := hW
  have hA : DataW.TrodAll enc Try.prog W 0 (fun _ => true) true Try.f4.params.toList args.toList ds p := hA0
  rw [Try.params4] at hA hval hsz
  obtain ⟨v0, vs0, d0, ds0, p0, q0, hargs, rfl, rfl, h0, r0⟩ := trodAll_cons hA
  obtain ⟨v1, vs1, d1, ds1, p1, q1, rfl, rfl, rfl, h1, r1⟩ := trodAll_cons r0
  obtain ⟨rfl, rfl, rfl⟩ := trodAll_nil r1
  obtain rfl : args = #[v0, v1] := by cases args; simp_all
  obtain ⟨rfl, rfl⟩ := trodVars_none hV
  have e0 := h0
  have lt0 : ∀ x ∈ p0, x.block < W.heap.size := by obtain ⟨m, hm⟩ := e0; exact DataW.trod_lt m _ _ _ hm
  obtain ⟨a0, rfl, _, _, w0⟩ := open_int Try.underlying3 (hval 0 3 v0 rfl rfl) h0
  have e1 := h1
  have lt1 : ∀ x ∈ p1, x.block < W.heap.size := by obtain ⟨m, hm⟩ := e1; exact DataW.trod_lt m _ _ _ hm
  obtain ⟨a1, len1, cap1, l1, rfl, w1⟩ := arg_ints (hval 1 23 v1 rfl rfl) h1
  clear hA0 hval0
  refine (walk a0 a1 len1 cap1 l1 W w0 w1).mono fun e W' ⟨he, bel⟩ => ?_
  subst he
  exact ⟨_, rfl, _, _, _, [], _, [], hW', trodAll_mk1 (shut_bool Try.underlying4 _), (trodAll_cons_mk (Below.trod laidOut (by kernel_rfl) (of_decide_eq_true (by kernel_rfl)) e0 bel lt0) (trodAll_cons_mk (Below.trod laidOut (by kernel_rfl) (of_decide_eq_true (by kernel_rfl)) e1 bel lt1) trodAll_mk0)), rfl, bel.frame _, fun h => by cases h⟩

theorem over : Rows.dictWriteRow.holds Try.pinned (OpenSpec.ofChange Rows.dictWriteSpec) :=
  OpenClaim.holds_of_wide 4 Try.f4 rfl rfl rfl rfl rfl rfl rfl ⟨rfl, rfl, rfl, rfl, rfl⟩ rfl rfl rfl rfl rfl (by kernel_rfl) Try.func4 (by kernel_rfl)
    (of_decide_eq_true (by kernel_rfl)) (by unfold Func.isWrapper; first | (rw [if_pos (by decide +kernel)]; kernel_rfl) | (rw [if_neg (by decide +kernel)]; exact ⟨rfl, rfl⟩))
    (fun os started H enc _ => lifted os started H enc)

theorem proved : Rows.DictWriteSaid := over
#print axioms proved
end Go.Proofs.Ytlajjkpcgokinaa.dictWrite
namespace Go.Proofs.Ytlajjkpcgokinaa
theorem dictWrite_holds : Rows.DictWriteSaid := dictWrite.proved
end Go.Proofs.Ytlajjkpcgokinaa
