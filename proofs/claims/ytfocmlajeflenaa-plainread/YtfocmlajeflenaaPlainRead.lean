/-
For any bytes (at most 3000), any type and any count: Read answers as the reference's Read, with the same data and the same refusal. No condition.
-/
import Derived.Test.YtfocmlajeflenaaRows
import Derived.Test.YtfocmlajeflenaaFrame
import Derived.Test.YtfocmlajeflenaaJ10
import Derived.Test.YtfocmlajeflenaaPlC
import Derived.Test.YtfocmlajeflenaaSm
import Derived.WalkKit
import Derived.ProofKit
import Derived.OpenShut
import Derived.ShutString
import Derived.ChangeOld
import Derived.ChangeMaps5
import Derived.Below
namespace Go.Proofs.Ytfocmlajeflenaa.plainRead
open Go.ChangeShapes Go.WideShapes Go.ChangeAt Go.RowKit Go.Deep Go.Sort
set_option linter.unusedVariables false
set_option linter.unusedSimpArgs false

set_option maxRecDepth 100000 in
set_option maxHeartbeats 4000000 in
theorem walk (a0 : Option Addr) (len0 cap0 : Nat) (l0 : List Nat) (k1 n1 : Int) (a2 : Int) (w : World) (w0 : ByteRow w a0 len0 cap0 l0) (g1 : (Lit.int .i64 k1).wf = true) (w1 : (Lit.int .i64 n1).wf = true) (w2 : (Lit.int .i64 a2).wf = true) :
    Calls Try.prog 4 #[.slice a0 len0 cap0, .agg #[.int .i64 k1, .int .i64 n1], .int .i64 a2] w fun e w' => e = .returned (.bool true) ∧ Below w.heap.size w w' := by
  have HN := w0.ln
  by_cases hbig : 3000 < len0
  · have hbig' : (3000 : Int) < (len0 : Int) := by omega
    go_enter Try.func4, Try.ntmps4
    go_wp2_with fail
    go_ret
    exact ⟨rfl, by first | exact Below.refl _ _ | exact alloc_below _ _⟩
  have hbig' : (len0 : Int) ≤ 3000 := by omega
  have hb := w0.byt (by omega)
  have hr2 : -9223372036854775808 ≤ a2 ∧ a2 ≤ 9223372036854775807 := i64_wf w2
  obtain ⟨er, l, hok, HP, HR⟩ := read_both k1 n1 len0 l0 a2 HN w0.lt (by omega) hr2.1 hr2.2
  obtain ⟨hwf, hlen⟩ := rdok_wf hok (by omega) w0.lt
  have HPW := fun W (h : Below w.heap.size w W) => HP W a0 cap0 (hb.later h)
  have HRW := fun W (h : Below w.heap.size w W) => HR W a0 cap0 (hb.later h)
  clear HP HR hb w0 hok
  have ab := alloc_below w (.cells #[.int .i64 k1, .int .i64 n1] 24 (0, 0))
  have hx := heap_new w (.cells #[.int .i64 k1, .int .i64 n1] 24 (0, 0))
  go_enter Try.func4, Try.ntmps4
  go_wp2_with fail
  refine (HPW _ ab).mono ?_
  rintro e W1 ⟨v1, rfl, ho1, hb1⟩
  have b1 := ab.trans (hb1.mono ab.size)
  obtain ⟨⟨t0, t1⟩, _⟩ := blk2 (below_at hb1 hx)
  obtain ⟨x1, y1, rfl, hd1⟩ := own_data ho1 hwf (by omega)
  clear HPW ho1 hb1 hx
  go_wp2_with fail
  refine (HRW _ b1).mono ?_
  rintro e W2 ⟨v2, rfl, ho2, hb2⟩
  have b2 := b1.trans (hb2.mono b1.size)
  obtain ⟨x2, y2, rfl, hd2⟩ := own_data ho2 hwf (by omega)
  have SA := rsameAll_any W2 x1 x2 l.length y1 l.length y2 l l (hd1.later hb2) hd2
  rw [sameL_refl] at SA
  clear HRW ho2 hb2 t0 t1
  go_wp2_with fail
  refine SA.mono ?_
  rintro e W3 ⟨rfl, hb3⟩
  go_wp2_with fail
  go_ret
  exact ⟨rfl, b2.trans (hb3.mono b2.size)⟩

set_option maxRecDepth 100000 in
theorem lifted (os : Os) (started : os.Started) (H : Type) (enc : TypeId × Value → H) :
    ReturnsInHanded {} Try.checked os 4 .any (Rows.plainReadSpec.pre6 enc Try.prog Try.f4 Rows.plainReadRow.domain false) (Rows.plainReadSpec.post enc Try.prog Try.f4 false true false false) := by
  refine returnsInHanded_of_change_sized (C := Try.checked) own started (by kernel_rfl) Try.func4
    (ChangeSpec.witness6 (enc := enc) (C := Try.checked) false ⟨#[], #[.slice none 0 0, .agg #[.int .i64 0, .int .i64 0], .int .i64 0], []⟩ 8 (by kernel_rfl) (by kernel_rfl) (by kernel_rfl) (by kernel_rfl)) ?_
  intro W base args ds gs before hval0 hW hcnd hsz0 _
  have hsz : (DataW.weightsEach Try.prog (Try.f4.params.toList ++ Rows.plainReadSpec.plain.varTypes Try.prog) (ds ++ gs)).all (· ≤ reachBytes) = true := hsz0
  clear hsz0
  have hval : ∀ (j : Nat) t v, Try.f4.params[j]? = some t → args[j]? = some v → Value.okWide Try.prog W .any base t v := hval0
  have hW' := hW
  obtain ⟨p, q, hA0, hV, rfl, hfz, hnd⟩ := hW
  have hA : DataW.TrodAll enc Try.prog W 0 (fun _ => true) true Try.f4.params.toList args.toList ds p := hA0
  rw [Try.params4] at hA hval hsz
  obtain ⟨v0, vs0, d0, ds0, p0, q0, hargs, rfl, rfl, h0, r0⟩ := trodAll_cons hA
  obtain ⟨v1, vs1, d1, ds1, p1, q1, rfl, rfl, rfl, h1, r1⟩ := trodAll_cons r0
  obtain ⟨v2, vs2, d2, ds2, p2, q2, rfl, rfl, rfl, h2, r2⟩ := trodAll_cons r1
  obtain ⟨rfl, rfl, rfl⟩ := trodAll_nil r2
  obtain rfl : args = #[v0, v1, v2] := by cases args; simp_all
  obtain ⟨rfl, rfl⟩ := trodVars_none hV
  have e0 := h0
  have lt0 : ∀ x ∈ p0, x.block < W.heap.size := by obtain ⟨m, hm⟩ := e0; exact DataW.trod_lt m _ _ _ hm
  obtain ⟨a0, len0, cap0, l0, rfl, w0⟩ := arg_bytes (hval 0 27 v0 rfl rfl) h0
  have e1 := h1
  have lt1 : ∀ x ∈ p1, x.block < W.heap.size := by obtain ⟨m, hm⟩ := e1; exact DataW.trod_lt m _ _ _ hm
  obtain ⟨k1, n1, rfl, g1, w1⟩ := arg_type (hval 1 24 v1 rfl rfl) h1
  have e2 := h2
  have lt2 : ∀ x ∈ p2, x.block < W.heap.size := by obtain ⟨m, hm⟩ := e2; exact DataW.trod_lt m _ _ _ hm
  obtain ⟨a2, rfl, _, _, w2⟩ := open_int Try.underlying3 (hval 2 3 v2 rfl rfl) h2
  clear hA0 hval0
  refine (walk a0 len0 cap0 l0 k1 n1 a2 W w0 g1 w1 w2).mono fun e W' ⟨he, bel⟩ => ?_
  subst he
  exact ⟨_, rfl, _, _, _, [], _, [], hW', trodAll_mk1 (shut_bool Try.underlying4 _), (trodAll_cons_mk (Below.trod laidOut (by kernel_rfl) (of_decide_eq_true (by kernel_rfl)) e0 bel lt0) (trodAll_cons_mk (Below.trod laidOut (by kernel_rfl) (of_decide_eq_true (by kernel_rfl)) e1 bel lt1) (trodAll_cons_mk (Below.trod laidOut (by kernel_rfl) (of_decide_eq_true (by kernel_rfl)) e2 bel lt2) trodAll_mk0))), rfl, bel.frame _, fun h => by cases h⟩

theorem over : Rows.plainReadRow.holds Try.pinned (OpenSpec.ofChange Rows.plainReadSpec) :=
  OpenClaim.holds_of_wide 4 Try.f4 rfl rfl rfl rfl rfl rfl rfl ⟨rfl, rfl, rfl, rfl, rfl⟩ rfl rfl rfl rfl rfl (by kernel_rfl) Try.func4 (by kernel_rfl)
    (of_decide_eq_true (by kernel_rfl)) (by unfold Func.isWrapper; first | (rw [if_pos (by decide +kernel)]; kernel_rfl) | (rw [if_neg (by decide +kernel)]; exact ⟨rfl, rfl⟩))
    (fun os started H enc _ => lifted os started H enc)

theorem proved : Rows.PlainReadSaid := over
#print axioms proved
end Go.Proofs.Ytfocmlajeflenaa.plainRead
namespace Go.Proofs.Ytfocmlajeflenaa
theorem plainRead_holds : Rows.PlainReadSaid := plainRead.proved
end Go.Proofs.Ytfocmlajeflenaa
