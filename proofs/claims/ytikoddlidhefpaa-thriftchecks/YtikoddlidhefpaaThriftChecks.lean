/-
For any value (of at most 3000 values, numbers and bytes; else the law asks one structure alone): thrift.Check and thrift.Size answer what the reference's May and Size answer; it stays. No condition.
-/
import Derived.Test.YtikoddlidhefpaaRows
import Derived.Test.YtikoddlidhefpaaJ1
import Derived.Test.YtikoddlidhefpaaFrameT
import Derived.Test.YtikoddlidhefpaaLawC
import Derived.WalkKit
import Derived.ProofKit
import Derived.OpenShut
import Derived.ShutString
import Derived.ChangeOld
import Derived.Below
import Derived.Lib.QuietBelow
import Derived.BigQuiet
namespace Go.Proofs.Ytikoddlidhefpaa.thriftChecks
open Go.ChangeShapes Go.WideShapes Go.ChangeAt Go.RowKit Go.Deep Go.Sort
set_option linter.unusedVariables false
set_option linter.unusedSimpArgs false

set_option maxRecDepth 100000 in
set_option maxHeartbeats 20000000 in
theorem walk (y0 : Pay) (c0 : Fo) (ia0 : Option Addr) (ic0 : Nat) (la0 : Option Addr) (lc0 : Nat) (w : World) (w0 : VIn w y0 c0 ia0 ic0 la0 lc0) :
    Calls Try.prog 3 #[val y0 c0 ia0 ic0 la0 lc0] w fun e w' => e = .returned (.bool true) ∧ Below w.heap.size w w' := by
  have HV0 : Hid (VIn w y0 c0 ia0 ic0 la0 lc0) := w0
  have hx : (bx w y0 c0 ia0 ic0 la0 lc0).heap[w.heap.size]? = some (.cells #[.int .i64 y0.kind, .int .i64 y0.key, .int .i64 y0.elem, .int .i64 y0.num, .string y0.text, .slice ia0 y0.ids.length ic0, .slice la0 (flen c0) lc0] 26 (0, 0)) := heap_new w _
  have hb0 : Below w.heap.size w (bx w y0 c0 ia0 ic0 la0 lc0) := alloc_below w _
  clear w0
  have SZ0 := size_any y0 c0 (bx w y0 c0 ia0 ic0 la0 lc0) ia0 ic0 la0 lc0 3000 (HV0.out.later hb0) (by omega) (by omega)
  obtain ⟨s0, HS0⟩ : ∃ s, Hid (szL c0 (1 + y0.text.size + y0.ids.length) 3000 = s) := ⟨_, rfl⟩
  rw [HS0.out] at SZ0
  have HX : Hid ((bx w y0 c0 ia0 ic0 la0 lc0).heap[w.heap.size]? = some (.cells #[.int .i64 y0.kind, .int .i64 y0.key, .int .i64 y0.elem, .int .i64 y0.num, .string y0.text, .slice ia0 y0.ids.length ic0, .slice la0 (flen c0) lc0] 26 (0, 0))) := hx
  have HB : Hid (Below w.heap.size w (bx w y0 c0 ia0 ic0 la0 lc0)) := hb0
  clear hx hb0
  go_enter Try.func3, Try.ntmps3
  go_wp2_with fail
  refine SZ0.mono ?_
  rintro e W1 ⟨rfl, hbx⟩
  have hb1 := HB.out.trans (hbx.mono HB.out.size)
  have hx1 := below_at hbx HX.out
  clear SZ0 hbx HX HB
  by_cases c : 3000 < s0
  · go_wp2_with fail
    refine (works_any _).mono ?_
    rintro e W9 ⟨rfl, hb9⟩
    go_wp2_with fail
    go_ret
    exact ⟨rfl, hb1.trans (hb9.mono hb1.size)⟩
  have c' : s0 ≤ 3000 := by omega
  have HBD := sz_bound (p := y0) (c := c0) (by rw [HS0.out]; exact c')
  have hcnt : cntF c0 ≤ 1000000 := by have := cntF_tot c0; omega
  have CP := copied_any y0 c0 W1 ia0 ic0 la0 lc0 (HV0.out.later hb1) (by omega)
  obtain ⟨⟨p0, p1, p2, p3, p4, p5, p6⟩, _⟩ := blk7 hx1
  clear c
  go_wp2_with fail
  refine CP.mono ?_
  rintro e W2 ⟨v2, rfl, hvm, hbx⟩
  obtain ⟨ja, jc, ka, kc, rfl, hmv⟩ := hvm.mv
  have hb2 := hb1.trans (hbx.mono hb1.size)
  have hx2 := below_at hbx hx1
  have hbm := alloc_below W2 (.cells #[.int .i64 y0.kind, .int .i64 y0.key, .int .i64 y0.elem, .int .i64 y0.num, .string y0.text, .slice ja y0.ids.length jc, .slice ka (flen c0) kc] 26)
  have hm3 := heap_new W2 (.cells #[.int .i64 y0.kind, .int .i64 y0.key, .int .i64 y0.elem, .int .i64 y0.num, .string y0.text, .slice ja y0.ids.length jc, .slice ka (flen c0) kc] 26)
  have hb3 := hb2.trans (hbm.mono hb2.size)
  have hx3 := below_at hbm hx2
  have hmv3 := hmv.later hbm
  have hlt2 := lt_of_heap hx2
  clear p0 p1 p2 p3 p4 p5 p6 CP hx1 hbx hvm hmv
  have CK := check_any y0 c0 (W2.alloc (.cells #[.int .i64 y0.kind, .int .i64 y0.key, .int .i64 y0.elem, .int .i64 y0.num, .string y0.text, .slice ja y0.ids.length jc, .slice ka (flen c0) kc] 26)) ja jc ka kc hmv3.vin
  go_wp2_with fail
  generalize W2.alloc (.cells #[.int .i64 y0.kind, .int .i64 y0.key, .int .i64 y0.elem, .int .i64 y0.num, .string y0.text, .slice ja y0.ids.length jc, .slice ka (flen c0) kc] 26) = W3 at *
  refine CK.mono ?_
  rintro e W4 ⟨rfl, hbx⟩
  have hb4 := hb3.trans (hbx.mono hb3.size)
  have hx4 := below_at hbx hx3
  have hm4 := below_at hbx hm3
  have hmv4 := hmv3.later hbx
  clear CK hbx hx3 hm3 hmv3
  obtain ⟨⟨p0, p1, p2, p3, p4, p5, p6⟩, _⟩ := blk7 hm4
  have SZ := size2_any y0 c0 W4 ja jc ka kc hmv4.vin hcnt
  have MY := rMay_any y0 c0
  have HME : Hid (rmayV y0 c0 32 = mayV y0 c0 32) := may_eq y0 c0 32 (by omega)
  have HDE : Hid (mayV y0 c0 32 = true → deepV hb9 y0 c0 = deepV nestsB y0 c0) := fun h => deepV_eq y0 c0 32 h
  rw [HME.out] at MY
  obtain ⟨t, HT⟩ : ∃ t, Hid (mayV y0 c0 32 = t) := ⟨_, rfl⟩
  rw [HT.out] at SZ MY HDE ⊢
  cases t
  · go_wp2_with fail
    refine SZ.mono ?_
    rintro e W5 ⟨rfl, hbx⟩
    have hb5 := hb4.trans (hbx.mono hb4.size)
    have hx5 := below_at hbx hx4
    have hm5 := below_at hbx hm4
    have hmv5 := hmv4.later hbx
    clear SZ hbx hx4 hm4 hmv4 p0 p1 p2 p3 p4 p5 p6
    obtain ⟨⟨p0, p1, p2, p3, p4, p5, p6⟩, _⟩ := blk7 hx5
    have MY5 := MY W5 ia0 ic0 la0 lc0 (HV0.out.later hb5)
    go_wp2_with fail
    refine MY5.mono ?_
    rintro e W6 ⟨rfl, hbx⟩
    have hb6 := hb5.trans (hbx.mono hb5.size)
    have hx6 := below_at hbx hx5
    have hm6 := below_at hbx hm5
    have hmv6 := hmv5.later hbx
    clear MY MY5 hbx hx5 hm5 hmv5 p0 p1 p2 p3 p4 p5 p6
    obtain ⟨⟨p0, p1, p2, p3, p4, p5, p6⟩, _⟩ := blk7 hm6
    obtain ⟨⟨q0, q1, q2, q3, q4, q5, q6⟩, _⟩ := blk7 hx6
    go_wp2_with fail
    refine (num_any 2 _).mono ?_
    rintro e wx ⟨rfl, hwx⟩
    obtain rfl := hwx.symm
    go_wp2_with fail
    have KP := kept_any y0 c0 W6 ja jc ka kc ia0 ic0 la0 lc0 hmv6 (HV0.out.later hb6)
    refine KP.mono ?_
    rintro e W7 ⟨rfl, hbx⟩
    have hb7 := hb6.trans (hbx.mono hb6.size)
    go_wp2_with fail
    refine (works_any _).mono ?_
    rintro e W8 ⟨rfl, hbz⟩
    go_wp2_with fail
    go_ret
    exact ⟨rfl, hb7.trans (hbz.mono hb7.size)⟩
  · go_wp2_with fail
    refine SZ.mono ?_
    rintro e W5 ⟨rfl, hbx⟩
    have hb5 := hb4.trans (hbx.mono hb4.size)
    have hx5 := below_at hbx hx4
    have hm5 := below_at hbx hm4
    have hmv5 := hmv4.later hbx
    clear SZ hbx hx4 hm4 hmv4 p0 p1 p2 p3 p4 p5 p6
    obtain ⟨⟨p0, p1, p2, p3, p4, p5, p6⟩, _⟩ := blk7 hx5
    have MY5 := MY W5 ia0 ic0 la0 lc0 (HV0.out.later hb5)
    go_wp2_with fail
    refine MY5.mono ?_
    rintro e W6 ⟨rfl, hbx⟩
    have hb6 := hb5.trans (hbx.mono hb5.size)
    have hx6 := below_at hbx hx5
    have hm6 := below_at hbx hm5
    have hmv6 := hmv5.later hbx
    clear MY MY5 hbx hx5 hm5 hmv5 p0 p1 p2 p3 p4 p5 p6
    obtain ⟨⟨p0, p1, p2, p3, p4, p5, p6⟩, _⟩ := blk7 hx6
    have RS := rsize_any y0 c0 W6 ia0 ic0 la0 lc0 (HV0.out.later hb6) hcnt
    rw [HDE.out (by trivial)] at RS
    go_wp2_with fail
    refine RS.mono ?_
    rintro e W7 ⟨rfl, hbx⟩
    have hb7 := hb6.trans (hbx.mono hb6.size)
    have hx7 := below_at hbx hx6
    have hm7 := below_at hbx hm6
    have hmv7 := hmv6.later hbx
    clear RS hbx hx6 hm6 hmv6 p0 p1 p2 p3 p4 p5 p6
    obtain ⟨⟨p0, p1, p2, p3, p4, p5, p6⟩, _⟩ := blk7 hm7
    obtain ⟨⟨q0, q1, q2, q3, q4, q5, q6⟩, _⟩ := blk7 hx7
    go_wp2_with fail
    refine (num_any 0 _).mono ?_
    rintro e wx ⟨rfl, hwx⟩
    obtain rfl := hwx.symm
    go_wp2_with fail
    have KP := kept_any y0 c0 W7 ja jc ka kc ia0 ic0 la0 lc0 hmv7 (HV0.out.later hb7)
    refine KP.mono ?_
    rintro e W8 ⟨rfl, hbx⟩
    have hb8 := hb7.trans (hbx.mono hb7.size)
    go_wp2_with fail
    refine (works_any _).mono ?_
    rintro e W9 ⟨rfl, hbz⟩
    go_wp2_with fail
    go_ret
    exact ⟨rfl, hb8.trans (hbz.mono hb8.size)⟩

set_option maxRecDepth 100000 in
theorem lifted (os : Os) (started : os.Started) (H : Type) (enc : TypeId × Value → H) :
    ReturnsInHanded {} Try.checked os 3 .any (Rows.thriftChecksSpec.pre6 enc Try.prog Try.f3 Rows.thriftChecksRow.domain false) (Rows.thriftChecksSpec.post enc Try.prog Try.f3 false true false false) := by
  refine returnsInHanded_of_change_sized (C := Try.checked) own started (by kernel_rfl) Try.func3
    (ChangeSpec.witness6 (enc := enc) (C := Try.checked) false ⟨#[], #[.agg #[.int .i64 0, .int .i64 0, .int .i64 0, .int .i64 0, .string { data := #[] }, .slice none 0 0, .slice none 0 0]], []⟩ 8 (by kernel_rfl) (by kernel_rfl) (by kernel_rfl) (by kernel_rfl)) ?_
  intro W base args ds gs before hval0 hW hcnd hsz0 _
  have hsz : (DataW.weightsEach Try.prog (Try.f3.params.toList ++ Rows.thriftChecksSpec.plain.varTypes Try.prog) (ds ++ gs)).all (· ≤ reachBytes) = true := hsz0
  clear hsz0
  have hval : ∀ (j : Nat) t v, Try.f3.params[j]? = some t → args[j]? = some v → Value.okWide Try.prog W .any base t v := hval0
  have hW' := hW
  obtain ⟨p, q, hA0, hV, rfl, hfz, hnd⟩ := hW
  have hA : DataW.TrodAll enc Try.prog W 0 (fun _ => true) true Try.f3.params.toList args.toList ds p := hA0
  rw [Try.params3] at hA hval hsz
  obtain ⟨v0, vs0, d0, ds0, p0, q0, hargs, rfl, rfl, h0, r0⟩ := trodAll_cons hA
  obtain ⟨rfl, rfl, rfl⟩ := trodAll_nil r0
  obtain rfl : args = #[v0] := by cases args; simp_all
  obtain ⟨rfl, rfl⟩ := trodVars_none hV
  have k0 := h0
  have lt0 : ∀ x ∈ p0, x.block < W.heap.size := by obtain ⟨m, hm⟩ := k0; exact DataW.trod_lt m _ _ _ hm
  obtain ⟨y0, c0, ia0, ic0, la0, lc0, rfl, w0⟩ := arg_th hsz 0 rfl rfl (hval 0 26 v0 rfl rfl) h0
  clear hA0 hval0
  refine (walk y0 c0 ia0 ic0 la0 lc0 W w0).mono fun e W' ⟨he, bel⟩ => ?_
  subst he
  exact ⟨_, rfl, _, _, _, [], _, [], hW', trodAll_mk1 (shut_bool Try.underlying4 _), (trodAll_cons_mk (Below.trod laidOut (by kernel_rfl) (of_decide_eq_true (by kernel_rfl)) k0 bel lt0) trodAll_mk0), rfl, bel.frame _, fun h => by cases h⟩

theorem over : Rows.thriftChecksRow.holds Try.pinned (OpenSpec.ofChange Rows.thriftChecksSpec) :=
  OpenClaim.holds_of_wide 3 Try.f3 rfl rfl rfl rfl rfl rfl rfl ⟨rfl, rfl, rfl, rfl, rfl⟩ rfl rfl rfl rfl rfl (by kernel_rfl) Try.func3 (by kernel_rfl)
    (of_decide_eq_true (by kernel_rfl)) (by unfold Func.isWrapper; first | (rw [if_pos (by decide +kernel)]; kernel_rfl) | (rw [if_neg (by decide +kernel)]; exact ⟨rfl, rfl⟩))
    (fun os started H enc _ => lifted os started H enc)

theorem proved : Rows.ThriftChecksSaid := over
#print axioms proved
end Go.Proofs.Ytikoddlidhefpaa.thriftChecks
namespace Go.Proofs.Ytikoddlidhefpaa
theorem thriftChecks_holds : Rows.ThriftChecksSaid := thriftChecks.proved
end Go.Proofs.Ytikoddlidhefpaa
