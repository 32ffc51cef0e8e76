/-
For any bytes (of at most 6000; else the law asks the examples alone) snappy.Squeeze answers a block that the reference's Open makes the bytes of again, of no more bytes than may be; what is handed in stays. No condition.
-/
import Derived.Test.YtkkignjenjdjiaaRows
import Derived.Test.YtkkignjenjdjiaaFrame
import Derived.Test.YtkkignjenjdjiaaWorks
import Derived.Test.YtkkignjenjdjiaaRefD
import Derived.WalkKit
import Derived.ProofKit
import Derived.OpenShut
import Derived.ShutString
import Derived.ChangeOld
import Derived.Below
namespace Go.Proofs.Ytkkignjenjdjiaa.snappySqueezes
open Go.ChangeShapes Go.WideShapes Go.ChangeAt Go.RowKit
set_option linter.unusedVariables false
set_option linter.unusedSimpArgs false

set_option maxRecDepth 100000 in
set_option maxHeartbeats 4000000 in
theorem walk (a0 : Option Addr) (len0 cap0 : Nat) (z0 : List Int) (w : World) (w0 : IsRow .u8 w a0 len0 cap0 z0) :
    Calls Try.prog 5 #[.slice a0 len0 cap0] w fun e w' => e = .returned (.bool true) ∧ Below w.heap.size w w' := by
  by_cases c : 6000 < len0
  · have c' : (6000 : Int) < (len0 : Int) := by omega
    go_enter Try.func5, Try.ntmps5
    go_wp2_with fail
    refine (works_any w).mono ?_
    rintro e W1 ⟨rfl, hb1⟩
    go_wp2
    go_ret
    exact ⟨rfl, hb1⟩
  have c' : (len0 : Int) ≤ 6000 := by omega
  obtain ⟨l, hl, hB, hs⟩ := row_nat w0
  clear w0
  go_enter Try.func5, Try.ntmps5
  go_wp2_with fail
  refine (lent_any w a0 cap0 len0 l hs (by omega)).mono ?_
  rintro e W1 ⟨g, cc, rfl, hm1, hcc, hb1⟩
  have Z := squeeze_src W1 (some ⟨g, 0, none⟩) l cc (by rw [hl]; have := src_take hm1 (n := len0) (by omega); rwa [List.take_left' hl] at this) hB (by omega) (by omega)
  rw [hl] at Z
  go_wp2_with fail
  refine Z.mono ?_
  rintro e W2 ⟨k, ad2, cc2, rfl, hs2, hc2, hq, hb2⟩
  have hkl := sqz_len hq (by omega)
  rw [hl] at hkl
  have hb02 := hb1.trans (hb2.mono hb1.size)
  have O := ropen_any W2 ad2 k cc2 (len0 : Int) hs2 hq.b8 (by omega)
  rw [sqz_open hq (by omega), if_neg (by omega), if_neg (by omega)] at O
  obtain ⟨kl, hkd⟩ : ∃ kl, kl = k.length := ⟨_, rfl⟩
  rw [← hkd] at O hkl ⊢
  clear Z hkd
  go_wp2_with fail
  refine O.mono ?_
  rintro e W3 ⟨hb3, ad3, cc3, rfl, ho3⟩
  rw [hl] at ho3 ⊢
  have hb03 := hb02.trans (hb3.mono hb02.size)
  have S1 := run_txt (src_own ho3).2
  have S2 := run_txt (hs.later hb03)
  have hb13 := hb2.trans (hb3.mono hb2.size)
  have KP := kept_any W3 g cc len0 cap0 a0 l (hm1.later hb13) hcc (hs.later hb03) (by omega)
  obtain ⟨d6, hd6⟩ : ∃ d6, d6 = len0 / 6 := ⟨_, rfl⟩
  have hd6i : (len0 : Int) / 6 = (d6 : Int) := by omega
  have hkl' : (kl : Int) ≤ (len0 : Int) + (d6 : Int) + 32 := by omega
  have hd6l : (d6 : Int) ≤ 1000 := by omega
  generalize txt l = T at *
  clear O ho3 hd6 hkl hs2 hm1 hs
  go_wp2_with fail
  refine (num_any 0 W3).mono ?_
  rintro e wx ⟨rfl, hwx⟩
  obtain rfl := hwx.symm
  go_wp2_with fail
  refine KP.mono ?_
  rintro e wx ⟨rfl, hwx⟩
  obtain rfl := hwx.symm
  go_wp2_with fail
  refine (works_any W3).mono ?_
  rintro e W4 ⟨rfl, hb4⟩
  go_wp2_with fail
  go_ret
  exact ⟨rfl, hb03.trans (hb4.mono hb03.size)⟩

set_option maxRecDepth 100000 in
theorem lifted (os : Os) (started : os.Started) (H : Type) (enc : TypeId × Value → H) :
    ReturnsInHanded {} Try.checked os 5 .any (Rows.snappySqueezesSpec.pre6 enc Try.prog Try.f5 Rows.snappySqueezesRow.domain false) (Rows.snappySqueezesSpec.post enc Try.prog Try.f5 false true false false) := by
  refine returnsInHanded_of_change (C := Try.checked) own started (by kernel_rfl) Try.func5
    (ChangeSpec.witness6 (enc := enc) (C := Try.checked) false ⟨#[], #[.slice none 0 0], []⟩ 8 (by kernel_rfl) (by kernel_rfl) (by kernel_rfl) (by kernel_rfl)) ?_
  intro W base args ds gs before hval0 hW hcnd _
  have hval : ∀ (j : Nat) t v, Try.f5.params[j]? = some t → args[j]? = some v → Value.okWide Try.prog W .any base t v := hval0
  have hW' := hW
  obtain ⟨p, q, hA0, hV, rfl, hfz, hnd⟩ := hW
  have hA : DataW.TrodAll enc Try.prog W 0 (fun _ => true) true Try.f5.params.toList args.toList ds p := hA0
  rw [Try.params5] at hA hval
  obtain ⟨v0, vs0, d0, ds0, p0, q0, hargs, rfl, rfl, h0, r0⟩ := trodAll_cons hA
  obtain ⟨rfl, rfl, rfl⟩ := trodAll_nil r0
  obtain rfl : args = #[v0] := by cases args; simp_all
  obtain ⟨rfl, rfl⟩ := trodVars_none hV
  obtain ⟨a0, len0, cap0, rfl⟩ := okWide_slice Try.underlying22 (hval 0 22 v0 rfl rfl)
  have k0 := h0
  have lt0 : ∀ x ∈ p0, x.block < W.heap.size := by obtain ⟨m, hm⟩ := k0; exact DataW.trod_lt m _ _ _ hm
  obtain ⟨z0, w0⟩ := row_open h0
  clear hA0 hval0
  refine (walk a0 len0 cap0 z0 W w0).mono fun e W' ⟨he, bel⟩ => ?_
  subst he
  exact ⟨_, rfl, _, _, _, [], _, [], hW', trodAll_mk1 (shut_bool Try.underlying4 _), (trodAll_cons_mk (Below.trod laidOut (by kernel_rfl) (of_decide_eq_true (by kernel_rfl)) k0 bel lt0) trodAll_mk0), rfl, bel.frame _, fun h => by cases h⟩

theorem over : Rows.snappySqueezesRow.holds Try.pinned (OpenSpec.ofChange Rows.snappySqueezesSpec) :=
  OpenClaim.holds_of_wide 5 Try.f5 rfl rfl rfl rfl rfl rfl rfl ⟨rfl, rfl, rfl, rfl, rfl⟩ rfl rfl rfl rfl rfl (by kernel_rfl) Try.func5 (by kernel_rfl)
    (of_decide_eq_true (by kernel_rfl)) (by unfold Func.isWrapper; first | (rw [if_pos (by decide +kernel)]; kernel_rfl) | (rw [if_neg (by decide +kernel)]; exact ⟨rfl, rfl⟩))
    (fun os started H enc _ => lifted os started H enc)

theorem proved : Rows.SnappySqueezesSaid := over
#print axioms proved
end Go.Proofs.Ytkkignjenjdjiaa.snappySqueezes
namespace Go.Proofs.Ytkkignjenjdjiaa
theorem snappySqueezes_holds : Rows.SnappySqueezesSaid := snappySqueezes.proved
end Go.Proofs.Ytkkignjenjdjiaa
