/-
For any numbers huffman.Codes answers what the reference's Codes answers: each symbol's code, or why there are none; what is handed in stays. No condition.
-/
import Derived.Test.YtkieallgompggaaRows
import Derived.Test.YtkieallgompggaaFrame
import Derived.Test.YtkieallgompggaaRefB
import Derived.WalkKit
import Derived.ProofKit
import Derived.OpenShut
import Derived.ShutString
import Derived.ChangeOld
import Derived.Below
namespace Go.Proofs.Ytkieallgompggaa.huffmanCodes
open Go.ChangeShapes Go.WideShapes Go.ChangeAt Go.RowKit
set_option linter.unusedVariables false
set_option linter.unusedSimpArgs false

set_option maxRecDepth 100000 in
set_option maxHeartbeats 4000000 in
theorem walk (a0 : Option Addr) (len0 cap0 : Nat) (z0 : List Int) (w : World) (w0 : IsRow .i64 w a0 len0 cap0 z0) (s0 : (len0 + 1) * 8 ≤ 140737488355328) :
    Calls Try.prog 4 #[.slice a0 len0 cap0] w fun e w' => e = .returned (.bool true) ∧ Below w.heap.size w w' := by
  obtain ⟨l, hl, hB, hs⟩ := row_ints w0
  have LE := lent_any w a0 cap0 len0 l hs s0
  have HL : Hid (l.length = len0) := hl
  have HS : Hid (Src w a0 len0 cap0 (ci l)) := hs
  have HZ : Hid ((len0 + 1) * 8 ≤ 140737488355328) := s0
  clear w0 hB hs hl s0
  by_cases h0 : refC l = 0
  · obtain ⟨h1, h2⟩ := refC_ok h0
    obtain ⟨m, rfl, h15⟩ := h2
    have hlen : len0 ≤ 1000 := by have := HL.out; omega
    have HM : Hid (m.length = len0) := by have := HL.out; rwa [nm_len] at this
    go_enter Try.func4, Try.ntmps4
    go_wp2_with fail
    refine LE.mono ?_
    rintro e W1 ⟨g, cc, rfl, hm1, hcc, hb1⟩
    have KW := codes_ok W1 (some ⟨g, 0, none⟩) len0 cc m (lent_src hm1 HL.out) hlen h15 h0
    clear LE
    go_wp2_with fail
    refine KW.mono ?_
    rintro e W2 ⟨R2, rfl, hv2, hr2, hb2⟩
    have b02 := hb1.trans (hb2.mono hb1.size)
    have KR := rcodes_ok W2 a0 len0 cap0 m (HS.out.later b02) hlen h15 h0
    clear KW
    go_wp2_with fail
    refine KR.mono ?_
    rintro e W3 ⟨R3, rfl, hv3, hr3, hb3⟩
    have b03 := b02.trans (hb3.mono b02.size)
    have KI := ints_any W3 (some ⟨R2, 0, none⟩) (some ⟨R3, 0, none⟩) len0 len0 len0 len0 (nm (codL m)) (nm (codL m)) (by have h := (hv2.later hb3 hv2.lt).src len0; rw [codL_len, HM.out] at h; exact h) (by have h := hv3.src len0; rw [codL_len, HM.out] at h; exact h) (by omega)
    rw [show decide (nm (codL m) = nm (codL m)) = true from by simp] at KI
    clear KR
    go_wp2_with fail
    refine KI.mono ?_
    rintro e W4 ⟨rfl, hb4⟩
    have b04 := b03.trans (hb4.mono b03.size)
    have b24 := (hb2.trans (hb3.mono hb2.size)).trans (hb4.mono (Nat.le_trans hb2.size hb3.size))
    have KK := kept_any W4 g cc len0 cap0 a0 (nm m) (hm1.later b24) hcc (HS.out.later b04) (by omega)
    go_wp2_with fail
    refine (num_any 0 W4).mono ?_
    rintro e wx ⟨rfl, hwx⟩
    obtain rfl := hwx.symm
    go_wp2_with fail
    refine KK.mono ?_
    rintro e W5 ⟨rfl, hb5⟩
    have b05 := b04.trans (hb5.mono b04.size)
    go_wp2_with fail
    refine (works_any W5).mono ?_
    rintro e W6 ⟨rfl, hb6⟩
    go_wp2_with fail
    go_ret
    exact ⟨rfl, b05.trans (hb6.mono b05.size)⟩
  · generalize hq : refC l = q at *
    go_enter Try.func4, Try.ntmps4
    go_wp2_with fail
    refine LE.mono ?_
    rintro e W1 ⟨g, cc, rfl, hm1, hcc, hb1⟩
    have KW := codes_no W1 (some ⟨g, 0, none⟩) len0 cc l (lent_src hm1 HL.out) (by have := HZ.out; omega) (by rw [hq]; exact h0)
    rw [hq] at KW
    clear LE
    go_wp2_with fail
    refine KW.mono ?_
    rintro e W2 ⟨rfl, hb2⟩
    have b02 := hb1.trans (hb2.mono hb1.size)
    have KR := rcodes_no W2 a0 len0 cap0 l (HS.out.later b02) (by have := HZ.out; omega) (by rw [hq]; exact h0)
    rw [hq] at KR
    have KI := ints_any W2 none none 0 0 0 0 [] [] ⟨rfl, .inl ⟨rfl, rfl, rfl⟩⟩ ⟨rfl, .inl ⟨rfl, rfl, rfl⟩⟩ (by omega)
    rw [show decide (([] : List Int) = []) = true from by simp] at KI
    clear KW hq
    go_wp2_with fail
    refine KR.mono ?_
    rintro e wx ⟨rfl, hwx⟩
    obtain rfl := hwx.symm
    clear KR
    go_wp2_with fail
    refine KI.mono ?_
    rintro e W4 ⟨rfl, hb4⟩
    have b04 := b02.trans (hb4.mono b02.size)
    have b24 := hb2.trans (hb4.mono hb2.size)
    have KK := kept_any W4 g cc len0 cap0 a0 l (hm1.later b24) hcc (HS.out.later b04) (by have := HZ.out; omega)
    go_wp2_with fail
    refine (num_any q W4).mono ?_
    rintro e wx ⟨rfl, hwx⟩
    obtain rfl := hwx.symm
    go_wp2_with fail
    refine KK.mono ?_
    rintro e W5 ⟨rfl, hb5⟩
    have b05 := b04.trans (hb5.mono b04.size)
    go_wp2_with fail
    refine (works_any W5).mono ?_
    rintro e W6 ⟨rfl, hb6⟩
    go_wp2_with fail
    go_ret
    exact ⟨rfl, b05.trans (hb6.mono b05.size)⟩

set_option maxRecDepth 100000 in
theorem lifted (os : Os) (started : os.Started) (H : Type) (enc : TypeId × Value → H) :
    ReturnsInHanded {} Try.checked os 4 .any (Rows.huffmanCodesSpec.pre6 enc Try.prog Try.f4 Rows.huffmanCodesRow.domain false) (Rows.huffmanCodesSpec.post enc Try.prog Try.f4 false true false false) := by
  refine returnsInHanded_of_change_sized (C := Try.checked) own started (by kernel_rfl) Try.func4
    (ChangeSpec.witness6 (enc := enc) (C := Try.checked) false ⟨#[], #[.slice none 0 0], []⟩ 8 (by kernel_rfl) (by kernel_rfl) (by kernel_rfl) (by kernel_rfl)) ?_
  intro W base args ds gs before hval0 hW hcnd hsz0 _
  have hsz : (DataW.weightsEach Try.prog (Try.f4.params.toList ++ Rows.huffmanCodesSpec.plain.varTypes Try.prog) (ds ++ gs)).all (· ≤ reachBytes) = true := hsz0
  clear hsz0
  have hval : ∀ (j : Nat) t v, Try.f4.params[j]? = some t → args[j]? = some v → Value.okWide Try.prog W .any base t v := hval0
  have hW' := hW
  obtain ⟨p, q, hA0, hV, rfl, hfz, hnd⟩ := hW
  have hA : DataW.TrodAll enc Try.prog W 0 (fun _ => true) true Try.f4.params.toList args.toList ds p := hA0
  rw [Try.params4] at hA hval hsz
  obtain ⟨v0, vs0, d0, ds0, p0, q0, hargs, rfl, rfl, h0, r0⟩ := trodAll_cons hA
  obtain ⟨rfl, rfl, rfl⟩ := trodAll_nil r0
  obtain rfl : args = #[v0] := by cases args; simp_all
  obtain ⟨rfl, rfl⟩ := trodVars_none hV
  obtain ⟨a0, len0, cap0, rfl⟩ := okWide_slice Try.underlying22 (hval 0 22 v0 rfl rfl)
  have k0 := h0
  have lt0 : ∀ x ∈ p0, x.block < W.heap.size := by obtain ⟨m, hm⟩ := k0; exact DataW.trod_lt m _ _ _ hm
  obtain ⟨z0, w0, s0⟩ := row_open hsz 0 rfl rfl h0
  clear hA0 hval0
  refine (walk a0 len0 cap0 z0 W w0 s0).mono fun e W' ⟨he, bel⟩ => ?_
  subst he
  exact ⟨_, rfl, _, _, _, [], _, [], hW', trodAll_mk1 (shut_bool Try.underlying4 _), (trodAll_cons_mk (Below.trod laidOut (by kernel_rfl) (of_decide_eq_true (by kernel_rfl)) k0 bel lt0) trodAll_mk0), rfl, bel.frame _, fun h => by cases h⟩

theorem over : Rows.huffmanCodesRow.holds Try.pinned (OpenSpec.ofChange Rows.huffmanCodesSpec) :=
  OpenClaim.holds_of_wide 4 Try.f4 rfl rfl rfl rfl rfl rfl rfl ⟨rfl, rfl, rfl, rfl, rfl⟩ rfl rfl rfl rfl rfl (by kernel_rfl) Try.func4 (by kernel_rfl)
    (of_decide_eq_true (by kernel_rfl)) (by unfold Func.isWrapper; first | (rw [if_pos (by decide +kernel)]; kernel_rfl) | (rw [if_neg (by decide +kernel)]; exact ⟨rfl, rfl⟩))
    (fun os started H enc _ => lifted os started H enc)

theorem proved : Rows.HuffmanCodesSaid := over
#print axioms proved
end Go.Proofs.Ytkieallgompggaa.huffmanCodes
namespace Go.Proofs.Ytkieallgompggaa
theorem huffmanCodes_holds : Rows.HuffmanCodesSaid := huffmanCodes.proved
end Go.Proofs.Ytkieallgompggaa
