/-
For any numbers, any code and any length huffman.Find answers the symbol that has that code by the reference's Codes, or that there is none. No condition.
-/
import Derived.Test.YtkieallgompggaaRows
import Derived.Test.YtkieallgompggaaFrame
import Derived.Test.YtkieallgompggaaRefB
import Derived.WalkKit
import Derived.ProofKit
import Derived.OpenShut
import Derived.ShutString
import Derived.ChangeOld
import Derived.Below
namespace Go.Proofs.Ytkieallgompggaa.huffmanFinds
open Go.ChangeShapes Go.WideShapes Go.ChangeAt Go.RowKit
set_option linter.unusedVariables false
set_option linter.unusedSimpArgs false

set_option maxRecDepth 100000 in
set_option maxHeartbeats 4000000 in
theorem walk (a0 : Option Addr) (len0 cap0 : Nat) (z0 : List Int) (a1 : Int) (a2 : Int) (w : World) (w0 : IsRow .i64 w a0 len0 cap0 z0) (s0 : (len0 + 1) * 8 ≤ 140737488355328) (w1 : (Lit.int .i64 a1).wf = true) (w2 : (Lit.int .i64 a2).wf = true) :
    Calls Try.prog 5 #[.slice a0 len0 cap0, .int .i64 a1, .int .i64 a2] w fun e w' => e = .returned (.bool true) ∧ Below w.heap.size w w' := by
  obtain ⟨l, hl, hB, hs⟩ := row_ints w0
  have HL : Hid (l.length = len0) := hl
  have HS : Hid (Src w a0 len0 cap0 (ci l)) := hs
  have HZ : Hid ((len0 + 1) * 8 ≤ 140737488355328) := s0
  clear w0 hB hs hl s0 w1 w2
  by_cases h0 : refC l = 0
  · obtain ⟨h1, h2⟩ := refC_ok h0
    obtain ⟨m, rfl, h15⟩ := h2
    have hlen : len0 ≤ 1000 := by have := HL.out; omega
    have hlen' : (len0 : Int) ≤ 1000 := by omega
    have HM : Hid (m.length = len0) := by have := HL.out; rwa [nm_len] at this
    have KF := find_ok w a0 len0 cap0 m a1 a2 HS.out hlen h15 h0
    have HNN : Hid (findP m a1 a2 = none → (∀ j, j < len0 → ¬ (((m.getD j 0 : Nat) : Int) = a2 ∧ 0 < a2 ∧ (((codL m).getD j 0 : Nat) : Int) = a1)) ∧ findS m a1 a2 = 0 ∧ findB m a1 a2 = false) := fun h => ⟨fun j hj => find_none_at h (by rw [HM.out]; exact hj), by unfold findS; rw [h]; rfl, by unfold findB; rw [h]; rfl⟩
    have HSS : Hid (∀ x, findP m a1 a2 = some x → (∀ j, j < x.1 → ¬ (((m.getD j 0 : Nat) : Int) = a2 ∧ 0 < a2 ∧ (((codL m).getD j 0 : Nat) : Int) = a1)) ∧ x.1 < len0 ∧ (((m.getD x.1 0 : Nat) : Int) = a2 ∧ 0 < a2 ∧ (((codL m).getD x.1 0 : Nat) : Int) = a1) ∧ findS m a1 a2 = (x.1 : Int) ∧ findB m a1 a2 = true) := fun x h => by
      obtain ⟨q1, q2, q3⟩ := find_some_at h
      exact ⟨q1, by rw [← HM.out]; exact q2, q3, by unfold findS; rw [h]; rfl, by unfold findB; rw [h]; rfl⟩
    generalize findS m a1 a2 = fs at *
    generalize findB m a1 a2 = fb at *
    refine calls_of fun Q HQ => ?_
    have QT : Hid (∀ w', Below w.heap.size w w' → Q (.returned (.bool true)) w') := fun w' h => HQ _ _ ⟨rfl, h⟩
    clear HQ
    go_enter Try.func5, Try.ntmps5
    go_wp2_with fail
    refine KF.mono ?_
    rintro e W2 ⟨rfl, hb2⟩
    have KR := rcodes_ok W2 a0 len0 cap0 m (HS.out.later hb2) hlen h15 h0
    clear KF
    go_wp2_with fail
    refine KR.mono ?_
    rintro e W3 ⟨R3, rfl, hv3, hr3, hb3⟩
    have b03 := hb2.trans (hb3.mono hb2.size)
    have HSR : Hid (∀ j, j < len0 → ∃ g off, a0 = some ⟨g, off, none⟩ ∧ W3.cell? ⟨g, off + j, none⟩ = some (.int .i64 ((m.getD j 0 : Nat) : Int))) := fun j hj => src_atn (HS.out.later b03) hj
    have HVR : Hid (∀ j, j < len0 → W3.cell? ⟨R3, j, none⟩ = some (.int .i64 (((codL m).getD j 0 : Nat) : Int))) := fun j hj => hv3.cell (by rw [codL_len, HM.out]; exact hj)
    have HWK : Hid (∀ W, Below w.heap.size w W → Calls Try.prog 14 #[] W Q → True) := fun _ _ _ => trivial
    clear KR hv3 hr3
    have HB3 : Hid _ := b03
    go_wp2_with fail
    go_loop [11] (fun c => ∃ j : Nat, j ≤ len0 ∧ c = .int .i64 j ∧ Hid (∀ i, i < j → ¬ (((m.getD i 0 : Nat) : Int) = a2 ∧ 0 < a2 ∧ (((codL m).getD i 0 : Nat) : Int) = a1))) (fun c => len0 - (intOf c).toNat)
    case atStart => exact ⟨0, Nat.zero_le _, rfl, fun i hi => by omega⟩
    case round =>
      obtain ⟨j, hj, rfl, HP⟩ := hrel
      by_cases hlt : j < len0
      · have hlt' : (j : Int) < (len0 : Int) := by omega
        obtain ⟨g, off, rfl, c1⟩ := HSR.out j hlt
        have c2 := HVR.out j hlt
        have HXY : Hid (∀ i, i < j + 1 → i = j ∨ i < j) := fun i hi => by omega
        by_cases hh : ((m.getD j 0 : Nat) : Int) = a2 ∧ 0 < a2 ∧ (((codL m).getD j 0 : Nat) : Int) = a1
        · have HFX : Hid (fs = (j : Int) ∧ fb = true) := by
            cases hf : findP m a1 a2 with
            | none => exact absurd hh ((HNN.out hf).1 j hlt)
            | some x =>
              obtain ⟨q1, q2, q3, q4, q5⟩ := HSS.out x hf
              have : x.1 = j := by
                rcases Nat.lt_trichotomy x.1 j with h | h | h
                · exact absurd q3 (HP.out _ h)
                · exact h
                · exact absurd hh (q1 j h)
              exact ⟨by rw [q4, this], q5⟩
          obtain ⟨e1, e2⟩ := HFX.out
          obtain ⟨g1, g2, g3⟩ := hh
          generalize m.getD j 0 = y at *
          generalize (codL m).getD j 0 = z at *
          subst e1 e2
          have g1' : ((y : Int) == a2) = true := by simpa using g1
          have g3' : ((z : Int) == a1) = true := by simpa using g3
          have hjj : ((j : Int) == (j : Int)) = true := by simp
          have g1z : (y : Int) = a2 := g1
          clear g1 g3 HNN HSS HP HXY HFX
          subst g1z
          go_wp2_with fail
          refine (works_any W3).mono ?_
          rintro e W4 ⟨rfl, hb4⟩
          go_wp2_with fail
          exact QT.out _ (HB3.out.trans (hb4.mono HB3.out.size))
        · have HN : Hid (∀ i, i < j + 1 → ¬ (((m.getD i 0 : Nat) : Int) = a2 ∧ 0 < a2 ∧ (((codL m).getD i 0 : Nat) : Int) = a1)) := by
            intro i hi
            rcases HXY.out i hi with h | h
            · subst h; exact hh
            · exact HP.out i h
          generalize m.getD j 0 = y at *
          generalize (codL m).getD j 0 = z at *
          clear HP HXY
          by_cases e1 : (y : Int) = a2
          · by_cases e2 : 0 < a2
            · have e3 : ¬ (z : Int) = a1 := fun e => hh ⟨e1, e2, e⟩
              have e3' : ((z : Int) == a1) = false := by simpa using e3
              have e1' : ((y : Int) == a2) = true := by simpa using e1
              clear e1 e3 hh
              go_wp2_with fail
              go_round
              case rel => exact ⟨j + 1, by omega, by go_num, HN⟩
              case measure => simp [intOf]; omega
            · have e2' : ¬ (0 : Int) < a2 := e2
              have e1' : ((y : Int) == a2) = true := by simpa using e1
              clear e1 hh e2
              go_wp2_with fail
              go_round
              case rel => exact ⟨j + 1, by omega, by go_num, HN⟩
              case measure => simp [intOf]; omega
          · have e1' : ((y : Int) == a2) = false := by simpa using e1
            clear e1 hh
            go_wp2_with fail
            go_round
            case rel => exact ⟨j + 1, by omega, by go_num, HN⟩
            case measure => simp [intOf]; omega
      · have hge : (len0 : Int) ≤ (j : Int) := by omega
        have HFX : Hid (fs = 0 ∧ fb = false) := by
          cases hf : findP m a1 a2 with
          | none => exact (HNN.out hf).2
          | some x =>
            obtain ⟨q1, q2, q3, q4, q5⟩ := HSS.out x hf
            exact absurd q3 (HP.out _ (by omega))
        obtain ⟨e1, e2⟩ := HFX.out
        subst e1 e2
        clear HNN HSS HP HFX
        go_wp2_with fail
        refine (works_any W3).mono ?_
        rintro e W4 ⟨rfl, hb4⟩
        go_wp2_with fail
        exact QT.out _ (HB3.out.trans (hb4.mono HB3.out.size))
  · have KF := find_no w a0 len0 cap0 l a1 a2 HS.out (by have := HZ.out; omega) h0
    have KR := fun W (h : Below w.heap.size w W) => rcodes_no W a0 len0 cap0 l (HS.out.later h) (by have := HZ.out; omega) h0
    generalize refC l = q at *
    go_enter Try.func5, Try.ntmps5
    go_wp2_with fail
    refine KF.mono ?_
    rintro e W2 ⟨rfl, hb2⟩
    go_wp2_with fail
    refine (KR W2 hb2).mono ?_
    rintro e wx ⟨rfl, hwx⟩
    obtain rfl := hwx.symm
    clear KF KR
    go_wp2_with fail
    go_loop [11] (fun c => c = .int .i64 0) (fun _ => 0)
    case atStart => rfl
    case round =>
      subst hrel
      go_wp2_with fail
      refine (works_any W2).mono ?_
      rintro e W3 ⟨rfl, hb3⟩
      go_wp2_with fail
      go_ret
      exact ⟨rfl, hb2.trans (hb3.mono hb2.size)⟩

set_option maxRecDepth 100000 in
theorem lifted (os : Os) (started : os.Started) (H : Type) (enc : TypeId × Value → H) :
    ReturnsInHanded {} Try.checked os 5 .any (Rows.huffmanFindsSpec.pre6 enc Try.prog Try.f5 Rows.huffmanFindsRow.domain false) (Rows.huffmanFindsSpec.post enc Try.prog Try.f5 false true false false) := by
  refine returnsInHanded_of_change_sized (C := Try.checked) own started (by kernel_rfl) Try.func5
    (ChangeSpec.witness6 (enc := enc) (C := Try.checked) false ⟨#[], #[.slice none 0 0, .int .i64 0, .int .i64 0], []⟩ 8 (by kernel_rfl) (by kernel_rfl) (by kernel_rfl) (by kernel_rfl)) ?_
  intro W base args ds gs before hval0 hW hcnd hsz0 _
  have hsz : (DataW.weightsEach Try.prog (Try.f5.params.toList ++ Rows.huffmanFindsSpec.plain.varTypes Try.prog) (ds ++ gs)).all (· ≤ reachBytes) = true := hsz0
  clear hsz0
  have hval : ∀ (j : Nat) t v, Try.f5.params[j]? = some t → args[j]? = some v → Value.okWide Try.prog W .any base t v := hval0
  have hW' := hW
  obtain ⟨p, q, hA0, hV, rfl, hfz, hnd⟩ := hW
  have hA : DataW.TrodAll enc Try.prog W 0 (fun _ => true) true Try.f5.params.toList args.toList ds p := hA0
  rw [Try.params5] at hA hval hsz
  obtain ⟨v0, vs0, d0, ds0, p0, q0, hargs, rfl, rfl, h0, r0⟩ := trodAll_cons hA
  obtain ⟨v1, vs1, d1, ds1, p1, q1, rfl, rfl, rfl, h1, r1⟩ := trodAll_cons r0
  obtain ⟨v2, vs2, d2, ds2, p2, q2, rfl, rfl, rfl, h2, r2⟩ := trodAll_cons r1
  obtain ⟨rfl, rfl, rfl⟩ := trodAll_nil r2
  obtain rfl : args = #[v0, v1, v2] := by cases args; simp_all
  obtain ⟨rfl, rfl⟩ := trodVars_none hV
  obtain ⟨a0, len0, cap0, rfl⟩ := okWide_slice Try.underlying22 (hval 0 22 v0 rfl rfl)
  have k0 := h0
  have lt0 : ∀ x ∈ p0, x.block < W.heap.size := by obtain ⟨m, hm⟩ := k0; exact DataW.trod_lt m _ _ _ hm
  obtain ⟨z0, w0, s0⟩ := row_open hsz 0 rfl rfl h0
  obtain ⟨a1, rfl, rfl, rfl, w1⟩ := open_int Try.underlying3 (hval 1 3 v1 rfl rfl) h1
  obtain ⟨a2, rfl, rfl, rfl, w2⟩ := open_int Try.underlying3 (hval 2 3 v2 rfl rfl) h2
  clear hA0 hval0
  refine (walk a0 len0 cap0 z0 a1 a2 W w0 s0 w1 w2).mono fun e W' ⟨he, bel⟩ => ?_
  subst he
  exact ⟨_, rfl, _, _, _, [], _, [], hW', trodAll_mk1 (shut_bool Try.underlying4 _), (trodAll_cons_mk (Below.trod laidOut (by kernel_rfl) (of_decide_eq_true (by kernel_rfl)) k0 bel lt0) (trodAll_cons_mk (shut_int Try.underlying3 w1) (trodAll_cons_mk (shut_int Try.underlying3 w2) trodAll_mk0))), rfl, bel.frame _, fun h => by cases h⟩

theorem over : Rows.huffmanFindsRow.holds Try.pinned (OpenSpec.ofChange Rows.huffmanFindsSpec) :=
  OpenClaim.holds_of_wide 5 Try.f5 rfl rfl rfl rfl rfl rfl rfl ⟨rfl, rfl, rfl, rfl, rfl⟩ rfl rfl rfl rfl rfl (by kernel_rfl) Try.func5 (by kernel_rfl)
    (of_decide_eq_true (by kernel_rfl)) (by unfold Func.isWrapper; first | (rw [if_pos (by decide +kernel)]; kernel_rfl) | (rw [if_neg (by decide +kernel)]; exact ⟨rfl, rfl⟩))
    (fun os started H enc _ => lifted os started H enc)

theorem proved : Rows.HuffmanFindsSaid := over
#print axioms proved
end Go.Proofs.Ytkieallgompggaa.huffmanFinds
namespace Go.Proofs.Ytkieallgompggaa
theorem huffmanFinds_holds : Rows.HuffmanFindsSaid := huffmanFinds.proved
end Go.Proofs.Ytkieallgompggaa
