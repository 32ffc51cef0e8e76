/-
  For any bytes (of at most 1000; else the law says nothing), every width and every count, bits.Unpack answers the numbers that the reference's Unpack answers, or the same refusal, and leaves what it is handed as it was. No condition.
-/
import Derived.Test.YtkbjohkijajcgabRows
import Derived.WalkKit
import Derived.ProofKit
import Derived.OpenShut
import Derived.ShutString
import Derived.ChangeOld
import Derived.Below
import Derived.Deep.QuietTactic
import Derived.BigQuiet
import Derived.Test.YtkbjohkijajcgabUnpackAny
namespace Go.Proofs.Ytkbjohkijajcgab.bitsUnpack
open Go.ChangeShapes Go.WideShapes Go.ChangeAt Go.RowKit
open Go.ChangeMaps (open_string shut_string)
set_option linter.unusedVariables false

theorem own : ownKnob Try.prog.godebug = none := by kernel_rfl
theorem laidOut : laidOutB Try.prog = true := by kernel_rfl

theorem walk (a0 : Option Addr) (len0 cap0 : Nat) (z0 : List Int) (a1 : Int) (a2 : Int) (w : World) (w0 : IsRow .u8 w a0 len0 cap0 z0) (w1 : (Lit.int .i64 a1).wf = true) (w2 : (Lit.int .i64 a2).wf = true) :
    Calls Try.prog 6 #[.slice a0 len0 cap0, .int .i64 a1, .int .i64 a2] w fun e w' => e = .returned (.bool true) ∧ Below w.heap.size w w' := by
  by_cases c1 : 1000 < len0
  · have c1' : (1000 : Int) < (len0 : Int) := by omega
    go_enter Try.func6, Try.ntmps6
    go_wp2
    go_ret
    exact ⟨rfl, Below.refl _ _⟩
  have c1' : (len0 : Int) ≤ 1000 := by omega
  obtain ⟨B, hBl, s0⟩ := row_num8 w0
  obtain ⟨er, L, hL, hP, hR⟩ := unpack_any len0 B a1 a2 (by omega) hBl (i64_wf w1).1 (i64_wf w1).2 (i64_wf w2).1 (i64_wf w2).2
  have hn : L.length ≤ 1048576 := by
    rcases hL with ⟨_, W, c, _, _, hz, _, _, rfl⟩ | ⟨_, rfl⟩
    · rw [upk_len]; exact (size_le hz).2.1
    · simp
  clear hL
  have HP : Hid _ := hP
  have HR : Hid _ := hR
  clear hP hR hBl w0 w1 w2
  go_enter Try.func6, Try.ntmps6
  go_wp2_with fail
  refine (HP.out w a0 cap0 s0).mono ?_
  rintro e W1 ⟨v1, rfl, o1, hb1⟩
  obtain ⟨am, cm, rfl⟩ := own_sl o1
  go_wp2_with fail
  refine (HR.out W1 a0 cap0 (s0.later hb1)).mono ?_
  rintro e W3 ⟨v2, rfl, o2, hb2⟩
  obtain ⟨an, cn, rfl⟩ := own_sl o2
  have m3 := (src_own (own_below o1 hb2)).2
  have n3 := (src_own o2).2
  rw [c64_ints] at m3 n3
  have hb03 : Below w.heap.size w W3 := hb1.trans (hb2.mono hb1.size)
  clear o1 o2 HP HR hb1 hb2
  generalize L.length = n at *
  generalize ints L = zs at *
  go_wp2_with fail
  go_loopw [11] (fun c wr => ∃ j q : Nat, c = .int .i64 j ∧ j ≤ n ∧ wr = W3.drewN q) (fun c _ => n - (intOf c).toNat)
  case atStart => exact ⟨0, 0, rfl, Nat.zero_le _, rfl⟩
  case round =>
    obtain ⟨j, q, rfl, hj, rfl⟩ := hrel
    by_cases hlt : j < n
    · have hlt' : (j : Int) < (n : Int) := by omega
      obtain ⟨gm, om, rfl, hcm⟩ := src_at m3 hlt
      obtain ⟨g1, o1, rfl, hc1⟩ := src_at n3 hlt
      have hcm' : (W3.drewN q).cell? ⟨gm, om + j, none⟩ = some (.int .u64 (zs.getD j 0)) := hcm
      have hc1' : (W3.drewN q).cell? ⟨g1, o1 + j, none⟩ = some (.int .u64 (zs.getD j 0)) := hc1
      generalize zs.getD j 0 = z at *
      go_wp2
      go_quiet (fail)
      go_wp2
      exact ⟨⟨j + 1, q + nq, by go_num, by omega, rfl⟩, by simp [intOf]; omega⟩
    · have hlt' : (n : Int) ≤ (j : Int) := by omega
      go_wp2
      go_ret
      exact ⟨rfl, below_drewN hb03 q⟩

set_option maxRecDepth 100000 in
theorem lifted (os : Os) (started : os.Started) (H : Type) (enc : TypeId × Value → H) :
    ReturnsInHanded {} Try.checked os 6 .any (Rows.bitsUnpackSpec.pre6 enc Try.prog Try.f6 Rows.bitsUnpackRow.domain false) (Rows.bitsUnpackSpec.post enc Try.prog Try.f6 false true false false) := by
  refine returnsInHanded_of_change (C := Try.checked) own started (by kernel_rfl) Try.func6
    (ChangeSpec.witness6 (enc := enc) (C := Try.checked) false ⟨#[], #[.slice none 0 0, .int .i64 0, .int .i64 0], []⟩ 8 (by kernel_rfl) (by kernel_rfl) (by kernel_rfl) (by kernel_rfl)) ?_
  intro W base args ds gs before hval0 hW hcnd _
  have hval : ∀ (j : Nat) t v, Try.f6.params[j]? = some t → args[j]? = some v → Value.okWide Try.prog W .any base t v := hval0
  have hW' := hW
  obtain ⟨p, q, hA0, hV, rfl, hfz, hnd⟩ := hW
  have hA : DataW.TrodAll enc Try.prog W 0 (fun _ => true) true Try.f6.params.toList args.toList ds p := hA0
  rw [Try.params6] at hA hval
  obtain ⟨v0, vs0, d0, ds0, p0, q0, hargs, rfl, rfl, h0, r0⟩ := trodAll_cons hA
  obtain ⟨v1, vs1, d1, ds1, p1, q1, rfl, rfl, rfl, h1, r1⟩ := trodAll_cons r0
  obtain ⟨v2, vs2, d2, ds2, p2, q2, rfl, rfl, rfl, h2, r2⟩ := trodAll_cons r1
  obtain ⟨rfl, rfl, rfl⟩ := trodAll_nil r2
  obtain rfl : args = #[v0, v1, v2] := by cases args; simp_all
  obtain ⟨rfl, rfl⟩ := trodVars_none hV
  obtain ⟨a0, len0, cap0, rfl⟩ := okWide_slice Try.underlying32 (hval 0 32 v0 rfl rfl)
  have k0 := h0
  have lt0 : ∀ x ∈ p0, x.block < W.heap.size := by obtain ⟨m, hm⟩ := k0; exact DataW.trod_lt m _ _ _ hm
  obtain ⟨z0, w0⟩ : ∃ zs, IsRow .u8 W a0 len0 cap0 zs := by
    obtain ⟨fuel, hf⟩ := h0
    rcases open_ints Try.underlying32 Try.underlying5 (by kernel_rfl) hf with ⟨hcs, _⟩ | ⟨x, l, c, zs, hcs, _, hl, hm, hz, _, hcell, hwz⟩
    · simp [Value.cells] at hcs
      obtain ⟨rfl, rfl, rfl⟩ := hcs
      exact ⟨[], .inl ⟨rfl, rfl, rfl, rfl⟩⟩
    · simp [Value.cells] at hcs
      obtain ⟨rfl, rfl, rfl⟩ := hcs
      exact ⟨zs, .inr ⟨_, rfl, hl, hm, by simpa using hz, hcell, hwz⟩⟩
  obtain ⟨a1, rfl, rfl, rfl, w1⟩ := open_int Try.underlying3 (hval 1 3 v1 rfl rfl) h1
  obtain ⟨a2, rfl, rfl, rfl, w2⟩ := open_int Try.underlying3 (hval 2 3 v2 rfl rfl) h2
  clear hA0 hval0
  refine (walk a0 len0 cap0 z0 a1 a2 W w0 w1 w2).mono fun e W' ⟨he, bel⟩ => ?_
  subst he
  exact ⟨_, rfl, _, _, _, [], _, [], hW', trodAll_mk1 (shut_bool Try.underlying4 _), (trodAll_cons_mk (Below.trod laidOut (by kernel_rfl) (of_decide_eq_true (by kernel_rfl)) k0 bel lt0) (trodAll_cons_mk (shut_int Try.underlying3 w1) (trodAll_cons_mk (shut_int Try.underlying3 w2) trodAll_mk0))), rfl, bel.frame _, fun h => by cases h⟩

theorem over : Rows.bitsUnpackRow.holds Try.pinned (OpenSpec.ofChange Rows.bitsUnpackSpec) :=
  OpenClaim.holds_of_wide 6 Try.f6 rfl rfl rfl rfl rfl rfl rfl ⟨rfl, rfl, rfl, rfl, rfl⟩ rfl rfl rfl rfl rfl (by kernel_rfl) Try.func6 (by kernel_rfl)
    (of_decide_eq_true (by kernel_rfl)) (by unfold Func.isWrapper; first | (rw [if_pos (by decide +kernel)]; kernel_rfl) | (rw [if_neg (by decide +kernel)]; exact ⟨rfl, rfl⟩))
    (fun os started H enc _ => lifted os started H enc)

theorem proved : Rows.BitsUnpackSaid := over
#print axioms proved
end Go.Proofs.Ytkbjohkijajcgab.bitsUnpack
namespace Go.Proofs.Ytkbjohkijajcgab
theorem bitsUnpack_holds : Rows.BitsUnpackSaid := bitsUnpack.proved
end Go.Proofs.Ytkbjohkijajcgab
