/-
For any type and any data (at most 200, of at most 2000 bytes together): Write and Size answer as the reference's Write, and leave what was handed in as it was. No condition.
-/
import Derived.Test.YtfocmlajeflenaaRows
import Derived.Test.YtfocmlajeflenaaFrame
import Derived.Test.YtfocmlajeflenaaPlWr
import Derived.Test.YtfocmlajeflenaaPlRw
import Derived.Test.YtfocmlajeflenaaPlC
import Derived.Test.YtfocmlajeflenaaPlH
import Derived.Test.YtfocmlajeflenaaSm
import Derived.WalkKit
import Derived.ProofKit
import Derived.OpenShut
import Derived.ShutString
import Derived.ChangeOld
import Derived.ChangeMaps5
import Derived.Below
namespace Go.Proofs.Ytfocmlajeflenaa.plainWrite
open Go.ChangeShapes Go.WideShapes Go.ChangeAt Go.RowKit Go.Deep Go.Sort
set_option linter.unusedVariables false
set_option linter.unusedSimpArgs false

set_option maxRecDepth 100000 in
set_option maxHeartbeats 4000000 in
theorem walk (k0 n0 : Int) (a1 : Option Addr) (len1 cap1 : Nat) (l1 : List Dat) (w : World) (g0 : (Lit.int .i64 k0).wf = true) (w0 : (Lit.int .i64 n0).wf = true) (w1 : Data w a1 len1 cap1 l1) :
    Calls Try.prog 3 #[.agg #[.int .i64 k0, .int .i64 n0], .slice a1 len1 cap1] w fun e w' => e = .returned (.bool true) ∧ Below w.heap.size w w' := by
  have HV := fun W (hb : Below w.heap.size w W) => heavy_any k0 n0 W a1 len1 cap1 l1 (w1.later hb)
  have ab := alloc_below w (.cells #[.int .i64 k0, .int .i64 n0] 24 (0, 0))
  have hx := heap_new w (.cells #[.int .i64 k0, .int .i64 n0] 24 (0, 0))
  go_enter Try.func3, Try.ntmps3
  go_wp2_with fail
  refine (HV _ ab).mono ?_
  rintro e W1 ⟨v, rfl, ⟨hv, rfl, hle⟩, hb1⟩
  have b1 := ab.trans (hb1.mono ab.size)
  have hx1 := below_at hb1 hx
  clear HV hb1 hx ab
  cases hv
  case true =>
    go_wp2_with fail
    go_ret
    exact ⟨rfl, b1⟩
  have hl200 := hle rfl
  clear hle
  obtain ⟨cv, W2, hrun, hown, hb2⟩ := copy_run (w1.later b1) (by omega)
  obtain ⟨ma, mc, rfl, hm⟩ := own_data hown w1.2.2.2.1 w1.2.2.1
  have b2 := b1.trans (hb2.mono b1.size)
  have hx2 := below_at hb2 hx1
  clear hown hb2 hx1 b1
  obtain ⟨⟨t0, t1⟩, _⟩ := blk2 hx2
  have C1 := pwrite_any k0 n0 W2 ma len1 mc l1 hm
  have C2 := fun W (hb : Below W2.heap.size W2 W) => psize_any k0 n0 W ma len1 mc l1 (hm.later hb)
  have C3 := fun W (hb : Below W2.heap.size W2 W) => rwrite_any k0 n0 W a1 len1 cap1 l1 ((w1.later b2).later hb)
  have C4 := fun W (hb : Below W2.heap.size W2 W) => rsameAll_any W ma a1 len1 mc len1 cap1 l1 l1 (hm.later hb) ((w1.later b2).later hb)
  rw [sameL_refl] at C4
  have HN : Hid ((if wNo k0 n0 l1 = 0 then (wSz k0 l1 : Int) else 0) = ((wRes k0 n0 l1).length : Int)) := by
    show _ = _
    unfold wRes
    split
    · rw [wOut_len]
    · rfl
  rw [HN.out] at C2
  generalize wNo k0 n0 l1 = er at *
  generalize wRes k0 n0 l1 = R at *
  clear hm w1
  go_wp2_with (at_builtin; refine wpList_append_run rfl (.const (.slice none 0 0)) (.tmp 15) 25 25 rfl _ _ _ rfl rfl hrun ?_)
  refine C1.mono ?_
  rintro e W3 ⟨v3, rfl, ho3, hb3⟩
  obtain ⟨x3, y3, rfl⟩ := own_sl ho3
  have s3 := strAt_own ho3
  have hx3 := below_at hb3 hx2
  obtain ⟨⟨u0, u1⟩, _⟩ := blk2 hx3
  clear C1 hrun t0 t1 hx2 ho3
  go_wp2_with fail
  refine (C2 _ hb3).mono ?_
  rintro e W4 ⟨rfl, hb4⟩
  have hb34 := hb3.trans (hb4.mono hb3.size)
  obtain ⟨⟨v0, v1⟩, _⟩ := blk2 (below_at hb4 hx3)
  clear C2 u0 u1 hx3
  go_wp2_with fail
  refine (C3 _ hb34).mono ?_
  rintro e W5 ⟨v5, rfl, ho5, hb5⟩
  obtain ⟨x5, y5, rfl⟩ := own_sl ho5
  have q3 := s3 W5 (hb4.trans (hb5.mono hb4.size))
  have q5 := strAt_own ho5 W5 (Below.refl _ _)
  have hb35 := hb34.trans (hb5.mono hb34.size)
  have C5 := C4 W5 hb35
  have b5 := b2.trans (hb35.mono b2.size)
  clear C3 C4 v0 v1 s3 ho5 hb3 hb4 hb34 hb5 hb35
  go_wp2_with fail
  refine C5.mono ?_
  rintro e W6 ⟨rfl, hb6⟩
  go_wp2_with fail
  go_ret
  exact ⟨rfl, b5.trans (hb6.mono b5.size)⟩

set_option maxRecDepth 100000 in
theorem lifted (os : Os) (started : os.Started) (H : Type) (enc : TypeId × Value → H) :
    ReturnsInHanded {} Try.checked os 3 .any (Rows.plainWriteSpec.pre6 enc Try.prog Try.f3 Rows.plainWriteRow.domain false) (Rows.plainWriteSpec.post enc Try.prog Try.f3 false true false false) := by
  refine returnsInHanded_of_change_sized (C := Try.checked) own started (by kernel_rfl) Try.func3
    (ChangeSpec.witness6 (enc := enc) (C := Try.checked) false ⟨#[], #[.agg #[.int .i64 0, .int .i64 0], .slice none 0 0], []⟩ 8 (by kernel_rfl) (by kernel_rfl) (by kernel_rfl) (by kernel_rfl)) ?_
  intro W base args ds gs before hval0 hW hcnd hsz0 _
  have hsz : (DataW.weightsEach Try.prog (Try.f3.params.toList ++ Rows.plainWriteSpec.plain.varTypes Try.prog) (ds ++ gs)).all (· ≤ reachBytes) = true := hsz0
  clear hsz0
  have hval : ∀ (j : Nat) t v, Try.f3.params[j]? = some t → args[j]? = some v → Value.okWide Try.prog W .any base t v := hval0
  have hW' := hW
  obtain ⟨p, q, hA0, hV, rfl, hfz, hnd⟩ := hW
  have hA : DataW.TrodAll enc Try.prog W 0 (fun _ => true) true Try.f3.params.toList args.toList ds p := hA0
  rw [Try.params3] at hA hval hsz
  obtain ⟨v0, vs0, d0, ds0, p0, q0, hargs, rfl, rfl, h0, r0⟩ := trodAll_cons hA
  obtain ⟨v1, vs1, d1, ds1, p1, q1, rfl, rfl, rfl, h1, r1⟩ := trodAll_cons r0
  obtain ⟨rfl, rfl, rfl⟩ := trodAll_nil r1
  obtain rfl : args = #[v0, v1] := by cases args; simp_all
  obtain ⟨rfl, rfl⟩ := trodVars_none hV
  have e0 := h0
  have lt0 : ∀ x ∈ p0, x.block < W.heap.size := by obtain ⟨m, hm⟩ := e0; exact DataW.trod_lt m _ _ _ hm
  obtain ⟨k0, n0, rfl, g0, w0⟩ := arg_type (hval 0 24 v0 rfl rfl) h0
  have e1 := h1
  have lt1 : ∀ x ∈ p1, x.block < W.heap.size := by obtain ⟨m, hm⟩ := e1; exact DataW.trod_lt m _ _ _ hm
  obtain ⟨a1, len1, cap1, l1, rfl, w1⟩ := arg_data hsz 1 rfl rfl (hval 1 25 v1 rfl rfl) h1
  clear hA0 hval0
  refine (walk k0 n0 a1 len1 cap1 l1 W g0 w0 w1).mono fun e W' ⟨he, bel⟩ => ?_
  subst he
  exact ⟨_, rfl, _, _, _, [], _, [], hW', trodAll_mk1 (shut_bool Try.underlying4 _), (trodAll_cons_mk (Below.trod laidOut (by kernel_rfl) (of_decide_eq_true (by kernel_rfl)) e0 bel lt0) (trodAll_cons_mk (Below.trod laidOut (by kernel_rfl) (of_decide_eq_true (by kernel_rfl)) e1 bel lt1) trodAll_mk0)), rfl, bel.frame _, fun h => by cases h⟩

theorem over : Rows.plainWriteRow.holds Try.pinned (OpenSpec.ofChange Rows.plainWriteSpec) :=
  OpenClaim.holds_of_wide 3 Try.f3 rfl rfl rfl rfl rfl rfl rfl ⟨rfl, rfl, rfl, rfl, rfl⟩ rfl rfl rfl rfl rfl (by kernel_rfl) Try.func3 (by kernel_rfl)
    (of_decide_eq_true (by kernel_rfl)) (by unfold Func.isWrapper; first | (rw [if_pos (by decide +kernel)]; kernel_rfl) | (rw [if_neg (by decide +kernel)]; exact ⟨rfl, rfl⟩))
    (fun os started H enc _ => lifted os started H enc)

theorem proved : Rows.PlainWriteSaid := over
#print axioms proved
end Go.Proofs.Ytfocmlajeflenaa.plainWrite
namespace Go.Proofs.Ytfocmlajeflenaa
theorem plainWrite_holds : Rows.PlainWriteSaid := plainWrite.proved
end Go.Proofs.Ytfocmlajeflenaa
