/-
Of any numbers' codes none begins another one, each is found as its symbol's, and those of one length rise. No condition but the statement's own: at most 300 numbers.
-/
import Derived.Test.YtkieallgompggaaRows
import Derived.Test.YtkieallgompggaaFrame
import Derived.Test.YtkieallgompggaaBeg
import Derived.Deep.CutRange
import Derived.WalkKit
import Derived.ProofKit
import Derived.OpenShut
import Derived.ShutString
import Derived.ChangeOld
import Derived.Below
namespace Go.Proofs.Ytkieallgompggaa.huffmanBegins
open Go.ChangeShapes Go.WideShapes Go.ChangeAt Go.RowKit
set_option linter.unusedVariables false
set_option linter.unusedSimpArgs false

set_option maxRecDepth 100000 in
set_option maxHeartbeats 40000000 in
theorem walk (a0 : Option Addr) (len0 cap0 : Nat) (z0 : List Int) (w : World) (w0 : IsRow .i64 w a0 len0 cap0 z0) (s0 : (len0 + 1) * 8 ≤ 140737488355328) :
    Calls Try.prog 8 #[.slice a0 len0 cap0] w fun e w' => e = .returned (.bool true) ∧ Below w.heap.size w w' := by
  obtain ⟨l, hl, hB, hs⟩ := row_ints w0
  have HL : Hid (l.length = len0) := hl
  have HS : Hid (Src w a0 len0 cap0 (ci l)) := hs
  have HZ : Hid ((len0 + 1) * 8 ≤ 140737488355328) := s0
  clear w0 hB hs hl s0
  by_cases hbig : 300 < len0
  · have hbig' : (300 : Int) < (len0 : Int) := by omega
    clear HL HS HZ hbig
    go_enter Try.func8, Try.ntmps8
    go_wp2_with fail
    refine (works_any w).mono ?_
    rintro e W6 ⟨rfl, hb6⟩
    go_wp2_with fail
    go_ret
    exact ⟨rfl, hb6⟩
  have hsm : ¬ (300 : Int) < (len0 : Int) := by omega
  have hsm2 : (len0 : Int) ≤ 300 := by omega
  by_cases h0 : refC l = 0
  · obtain ⟨h1, h2⟩ := refC_ok h0
    obtain ⟨m, rfl, h15⟩ := h2
    have hlen : len0 ≤ 1000 := by omega
    have HM : Hid (m.length = len0) := by have := HL.out; rwa [nm_len] at this
    have HD : Hid (∀ j, m.getD j 0 ≤ 15) := getD15 h15
    have HW : Hid (wgt m ≤ 32768) := refC_wgt h0
    have KW := codes_ok w a0 len0 cap0 m HS.out hlen h15 h0
    have KF0 : Hid (∀ W code length, Below w.heap.size w W → Calls Try.prog 18 #[.slice a0 len0 cap0, .int .i64 code, .int .i64 length] W fun e w' => e = .returned (.tuple #[.int .i64 (findS m code length), .bool (findB m code length)]) ∧ Below W.heap.size W w') := fun W code length h => find_ok W a0 len0 cap0 m code length (HS.out.later h) hlen h15 h0
    refine calls_of fun Q HQ => ?_
    have QT : Hid (∀ w', Below w.heap.size w w' → Q (.returned (.bool true)) w') := fun w' h => HQ _ _ ⟨rfl, h⟩
    clear HQ
    go_enter Try.func8, Try.ntmps8
    go_wp2_with fail
    refine KW.mono ?_
    rintro e W2 ⟨R2, rfl, hv2, hr2, hb2⟩
    have HSR : Hid (∀ W j, Below W2.heap.size W2 W → j < len0 → ∃ g off, a0 = some ⟨g, off, none⟩ ∧ W.cell? ⟨g, off + j, none⟩ = some (.int .i64 ((m.getD j 0 : Nat) : Int))) := fun W j hW hj => src_atn ((HS.out.later hb2).later hW) hj
    have HVR : Hid (∀ W j, Below W2.heap.size W2 W → j < len0 → W.cell? ⟨R2, j, none⟩ = some (.int .i64 (((codL m).getD j 0 : Nat) : Int))) := fun W j hW hj => (hv2.later hW hv2.lt).cell (by rw [codL_len, HM.out]; exact hj)
    have KF : Hid (∀ W j, Below W2.heap.size W2 W → j < len0 → m.getD j 0 ≠ 0 → Calls Try.prog 18 #[.slice a0 len0 cap0, .int .i64 (((codL m).getD j 0 : Nat) : Int), .int .i64 ((m.getD j 0 : Nat) : Int)] W fun e w' => e = .returned (.tuple #[.int .i64 (j : Int), .bool true]) ∧ Below W.heap.size W w') := fun W j hW hj hx => by
      have h := KF0.out W (((codL m).getD j 0 : Nat) : Int) ((m.getD j 0 : Nat) : Int) (hb2.trans (hW.mono hb2.size))
      obtain ⟨q1, q2⟩ := find_self (m := m) (i := j) (by rw [HM.out]; exact hj) hx
      rw [q1, q2] at h
      exact h
    have QT2 : Hid (∀ w', Below W2.heap.size W2 w' → Q (.returned (.bool true)) w') := fun w' h => QT.out w' (hb2.trans (h.mono hb2.size))
    clear KW QT KF0 hv2 hr2 hb2 HS HL
    go_wp2_with fail
    refine (num_any 0 W2).mono ?_
    rintro e wx ⟨rfl, hwx⟩
    obtain rfl := hwx.symm
    go_wp2_with fail
    go_loopw [5] (fun c wr => ∃ j : Nat, j ≤ len0 ∧ c = .int .i64 j ∧ Below W2.heap.size W2 wr) (fun c _ => len0 - (intOf c).toNat)
    case atStart => exact ⟨0, Nat.zero_le _, rfl, Below.refl _ _⟩
    case round =>
      obtain ⟨j, hj, rfl, bel⟩ := hrel
      by_cases hlt : j < len0
      · have hlt' : (j : Int) < (len0 : Int) := by omega
        obtain ⟨g, off, rfl, c1⟩ := HSR.out wr j bel hlt
        have c2 := HVR.out wr j bel hlt
        by_cases hx : m.getD j 0 = 0
        · have hz := codL_zero (m := m) (by rw [HM.out]; exact hlt) hx
          rw [hx] at c1
          rw [hz] at c2
          clear hx hz
          go_wp2_with fail
          go_roundw
          case rel => exact ⟨j + 1, by omega, by go_num, bel⟩
          case measure => simp [intOf]; omega
        · have KFj : Hid (Calls Try.prog 18 #[.slice (some ⟨g, off, none⟩) len0 cap0, .int .i64 (((codL m).getD j 0 : Nat) : Int), .int .i64 ((m.getD j 0 : Nat) : Int)] wr.drew fun e w' => e = .returned (.tuple #[.int .i64 (j : Int), .bool true]) ∧ Below wr.drew.heap.size wr.drew w') := KF.out wr.drew j bel.drew hlt hx
          have HX : Hid (m.getD j 0 ≠ 0) := hx
          have hx1 : (1 : Int) ≤ ((m.getD j 0 : Nat) : Int) := by omega
          have hx15 : ((m.getD j 0 : Nat) : Int) ≤ 15 := Int.ofNat_le.2 (HD.out j)
          have hxe : (((m.getD j 0 : Nat) : Int) == 0) = false := by simpa using hx
          have hxl : decide (((m.getD j 0 : Nat) : Int) < 0) = false := decide_eq_false (by omega)
          have hxg : decide ((15 : Int) < ((m.getD j 0 : Nat) : Int)) = false := decide_eq_false (by omega)
          have hxl' : ¬ ((m.getD j 0 : Nat) : Int) < 0 := by omega
          have hxg' : ¬ (15 : Int) < ((m.getD j 0 : Nat) : Int) := by omega
          have hsh := codL_short (i := j) HD.out HW.out (by rw [HM.out]; exact hlt) hx
          have hz0 : decide ((((codL m).getD j 0 : Nat) : Int) < 0) = false := decide_eq_false (by omega)
          have hjj : ((j : Int) != (j : Int)) = false := by simp
          have HKY : Hid (∀ W k, Below W2.heap.size W2 W → k < len0 → W.cell? ⟨g, off + k, none⟩ = some (.int .i64 ((m.getD k 0 : Nat) : Int))) := fun W k hW hk => by
            obtain ⟨g', off', e, h⟩ := HSR.out W k hW hk
            cases e
            exact h
          have HA : Hid (∀ k s, k < len0 → k ≠ j → m.getD j 0 ≤ m.getD k 0 → s = m.getD k 0 - m.getD j 0 → ((((codL m).getD k 0 : Nat) : Int) / 2 ^ s == (((codL m).getD j 0 : Nat) : Int)) = false) := fun k s hk hne hle hs => codL_begin HD.out (by rw [HM.out]; exact hlt) (by rw [HM.out]; exact hk) HX.out hne hle s hs
          have HR : Hid (∀ k, k < j → m.getD k 0 = m.getD j 0 → decide ((((codL m).getD j 0 : Nat) : Int) ≤ (((codL m).getD k 0 : Nat) : Int)) = false) := fun k hk e => codL_rise (by rw [HM.out]; exact hlt) hk HX.out e
          have HC1 : Hid (∀ W, Below W2.heap.size W2 W → W.cell? ⟨g, off + j, none⟩ = some (.int .i64 ((m.getD j 0 : Nat) : Int)) ∧ W.cell? ⟨R2, j, none⟩ = some (.int .i64 (((codL m).getD j 0 : Nat) : Int))) := fun W hW => ⟨HKY.out W j hW hlt, HVR.out W j hW hlt⟩
          clear KF
          generalize m.getD j 0 = x at *
          generalize (codL m).getD j 0 = z at *
          clear hx
          go_upto_region 16 with fail
          go_cut [6, 7] from 32 to 166 (fun s ok wx => s = .int .i64 (j : Int) ∧ ok = .bool true ∧ Below W2.heap.size W2 wx)
          case first =>
            go_region_with (go_at_call 18; refine KFj.out.mono ?_; rintro e W4 ⟨rfl, hb4⟩)
            all_goals (
              go_wp2_with fail
              go_meet
              exact ⟨rfl, rfl, bel.drew.trans (hb4.mono bel.drew.size)⟩)
          case rest =>
            clear c1 c2 bel KFj
            obtain ⟨rfl, rfl, bel2⟩ := hcut
            obtain ⟨c1, c2⟩ := HC1.out _ bel2
            go_wp2_with fail
            go_big_quiet (fail)
            go_wp2_with fail
            go_loopw [8] (fun c wr => ∃ k : Nat, k ≤ len0 ∧ c = .int .i64 k ∧ Below W2.heap.size W2 wr) (fun c _ => len0 - (intOf c).toNat)
            case atStart => exact ⟨0, Nat.zero_le _, rfl, ⟨bel2.os, bel2.tape, bel2.output, bel2.size, bel2.block⟩⟩
            case round =>
              clear c1 c2 bel2
              obtain ⟨k, hk, rfl, bel⟩ := hrel
              by_cases hlk : k < len0
              · have hlk' : (k : Int) < (len0 : Int) := by omega
                obtain ⟨c1, c2⟩ := HC1.out _ bel
                have c3 := HKY.out _ k bel hlk
                have c4 := HVR.out _ k bel hlk
                have HAk : Hid (∀ s, k ≠ j → x ≤ m.getD k 0 → s = m.getD k 0 - x → ((((codL m).getD k 0 : Nat) : Int) / 2 ^ s == (z : Int)) = false) := fun s h1 h2 h3 => HA.out k s hlk h1 h2 h3
                have HRk : Hid (k < j → m.getD k 0 = x → decide ((z : Int) ≤ (((codL m).getD k 0 : Nat) : Int)) = false) := fun h1 h2 => HR.out k h1 h2
                have hy15 : m.getD k 0 ≤ 15 := HD.out k
                generalize m.getD k 0 = y at *
                generalize (codL m).getD k 0 = v at *
                by_cases ekj : k = j
                · have b1 : ((k : Int) != (j : Int)) = false := by simp; omega
                  have b2 : decide ((k : Int) < (j : Int)) = false := decide_eq_false (by omega)
                  have b2n : decide (k < j) = false := decide_eq_false (by omega)
                  clear ekj HAk HRk hy15 hxl hxg
                  go_wp2_with fail
                  go_big_quiet (fail)
                  go_wp2_with fail
                  go_roundw
                  case rel => exact ⟨k + 1, by omega, by go_num, ⟨bel.os, bel.tape, bel.output, bel.size, bel.block⟩⟩
                  case measure => simp [intOf]; omega
                · have b1 : ((k : Int) != (j : Int)) = true := by simp; omega
                  by_cases hxy : x ≤ y
                  · have b3 : decide ((x : Int) ≤ (y : Int)) = true := decide_eq_true (by omega)
                    have b3n : decide (x ≤ y) = true := decide_eq_true hxy
                    obtain ⟨s, hs⟩ : ∃ s, s = y - x := ⟨_, rfl⟩
                    have hsi : (y : Int) - (x : Int) = (s : Int) := by omega
                    have hs15 : (s : Int) ≤ 15 := by omega
                    have b4 := HAk.out s ekj hxy hs
                    by_cases hkj : k < j
                    · have b2 : decide ((k : Int) < (j : Int)) = true := decide_eq_true (by omega)
                      have b2n : decide (k < j) = true := decide_eq_true (by omega)
                      by_cases hyx : y = x
                      · have b5 : ((y : Int) == (x : Int)) = true := by simp; omega
                        have b5n : (y == x) = true := by simp; omega
                        have b6 := HRk.out hkj hyx
                        have b6n : decide (z ≤ v) = false := by have h := of_decide_eq_false b6; exact decide_eq_false (by omega)
                        clear ekj HAk HRk hy15 hxl hxg hyx hkj hs hxy
                        go_wp2_with fail
                        go_big_quiet (fail)
                        go_wp2_with fail
                        go_roundw
                        case rel => exact ⟨k + 1, by omega, by go_num, ⟨bel.os, bel.tape, bel.output, bel.size, bel.block⟩⟩
                        case measure => simp [intOf]; omega
                      · have b5 : ((y : Int) == (x : Int)) = false := by simp; omega
                        have b5n : (y == x) = false := by simp; omega
                        clear ekj HAk HRk hy15 hxl hxg hyx hkj hs hxy
                        go_wp2_with fail
                        go_big_quiet (fail)
                        go_wp2_with fail
                        go_roundw
                        case rel => exact ⟨k + 1, by omega, by go_num, ⟨bel.os, bel.tape, bel.output, bel.size, bel.block⟩⟩
                        case measure => simp [intOf]; omega
                    · have b2 : decide ((k : Int) < (j : Int)) = false := decide_eq_false (by omega)
                      have b2n : decide (k < j) = false := decide_eq_false (by omega)
                      clear ekj HAk HRk hy15 hxl hxg hkj hs hxy
                      go_wp2_with fail
                      go_big_quiet (fail)
                      go_wp2_with fail
                      go_roundw
                      case rel => exact ⟨k + 1, by omega, by go_num, ⟨bel.os, bel.tape, bel.output, bel.size, bel.block⟩⟩
                      case measure => simp [intOf]; omega
                  · have b3 : decide ((x : Int) ≤ (y : Int)) = false := decide_eq_false (by omega)
                    have b3n : decide (x ≤ y) = false := decide_eq_false hxy
                    by_cases hkj : k < j
                    · have b2 : decide ((k : Int) < (j : Int)) = true := decide_eq_true (by omega)
                      have b2n : decide (k < j) = true := decide_eq_true (by omega)
                      have b5 : ((y : Int) == (x : Int)) = false := by simp; omega
                      have b5n : (y == x) = false := by simp; omega
                      clear ekj HAk HRk hy15 hxl hxg hkj hxy
                      go_wp2_with fail
                      go_big_quiet (fail)
                      go_wp2_with fail
                      go_roundw
                      case rel => exact ⟨k + 1, by omega, by go_num, ⟨bel.os, bel.tape, bel.output, bel.size, bel.block⟩⟩
                      case measure => simp [intOf]; omega
                    · have b2 : decide ((k : Int) < (j : Int)) = false := decide_eq_false (by omega)
                      have b2n : decide (k < j) = false := decide_eq_false (by omega)
                      clear ekj HAk HRk hy15 hxl hxg hkj hxy
                      go_wp2_with fail
                      go_big_quiet (fail)
                      go_wp2_with fail
                      go_roundw
                      case rel => exact ⟨k + 1, by omega, by go_num, ⟨bel.os, bel.tape, bel.output, bel.size, bel.block⟩⟩
                      case measure => simp [intOf]; omega
              · have hge : (len0 : Int) ≤ (k : Int) := by omega
                go_wp2_with fail
                go_roundw
                case rel => exact ⟨j + 1, by omega, by go_num, bel⟩
                case measure => simp [intOf]; omega
      · have hge : (len0 : Int) ≤ (j : Int) := by omega
        go_wp2_with fail
        refine (works_any wr).mono ?_
        rintro e W4 ⟨rfl, hb4⟩
        go_wp2_with fail
        exact QT2.out _ (bel.trans (hb4.mono bel.size))
  · have KW := codes_no w a0 len0 cap0 l HS.out (by have := HZ.out; omega) h0
    generalize refC l = q at *
    have h0' : (q != 0) = true := by simpa using h0
    go_enter Try.func8, Try.ntmps8
    go_wp2_with fail
    refine KW.mono ?_
    rintro e W2 ⟨rfl, hb2⟩
    clear KW
    go_wp2_with fail
    refine (num_any q W2).mono ?_
    rintro e wx ⟨rfl, hwx⟩
    obtain rfl := hwx.symm
    go_wp2_with fail
    refine (works_any W2).mono ?_
    rintro e W4 ⟨rfl, hb4⟩
    go_wp2_with fail
    go_ret
    exact ⟨rfl, hb2.trans (hb4.mono hb2.size)⟩

set_option maxRecDepth 100000 in
theorem lifted (os : Os) (started : os.Started) (H : Type) (enc : TypeId × Value → H) :
    ReturnsInHanded {} Try.checked os 8 .any (Rows.huffmanBeginsSpec.pre6 enc Try.prog Try.f8 Rows.huffmanBeginsRow.domain false) (Rows.huffmanBeginsSpec.post enc Try.prog Try.f8 false true false false) := by
  refine returnsInHanded_of_change_sized (C := Try.checked) own started (by kernel_rfl) Try.func8
    (ChangeSpec.witness6 (enc := enc) (C := Try.checked) false ⟨#[], #[.slice none 0 0], []⟩ 8 (by kernel_rfl) (by kernel_rfl) (by kernel_rfl) (by kernel_rfl)) ?_
  intro W base args ds gs before hval0 hW hcnd hsz0 _
  have hsz : (DataW.weightsEach Try.prog (Try.f8.params.toList ++ Rows.huffmanBeginsSpec.plain.varTypes Try.prog) (ds ++ gs)).all (· ≤ reachBytes) = true := hsz0
  clear hsz0
  have hval : ∀ (j : Nat) t v, Try.f8.params[j]? = some t → args[j]? = some v → Value.okWide Try.prog W .any base t v := hval0
  have hW' := hW
  obtain ⟨p, q, hA0, hV, rfl, hfz, hnd⟩ := hW
  have hA : DataW.TrodAll enc Try.prog W 0 (fun _ => true) true Try.f8.params.toList args.toList ds p := hA0
  rw [Try.params8] at hA hval hsz
  obtain ⟨v0, vs0, d0, ds0, p0, q0, hargs, rfl, rfl, h0, r0⟩ := trodAll_cons hA
  obtain ⟨rfl, rfl, rfl⟩ := trodAll_nil r0
  obtain rfl : args = #[v0] := by cases args; simp_all
  obtain ⟨rfl, rfl⟩ := trodVars_none hV
  obtain ⟨a0, len0, cap0, rfl⟩ := okWide_slice Try.underlying22 (hval 0 22 v0 rfl rfl)
  have k0 := h0
  have lt0 : ∀ x ∈ p0, x.block < W.heap.size := by obtain ⟨m, hm⟩ := k0; exact DataW.trod_lt m _ _ _ hm
  obtain ⟨z0, w0, s0⟩ := row_open hsz 0 rfl rfl h0
  clear hA0 hval0
  refine (walk a0 len0 cap0 z0 W w0 s0).mono fun e W' ⟨he, bel⟩ => ?_
  subst he
  exact ⟨_, rfl, _, _, _, [], _, [], hW', trodAll_mk1 (shut_bool Try.underlying4 _), (trodAll_cons_mk (Below.trod laidOut (by kernel_rfl) (of_decide_eq_true (by kernel_rfl)) k0 bel lt0) trodAll_mk0), rfl, bel.frame _, fun h => by cases h⟩

theorem over : Rows.huffmanBeginsRow.holds Try.pinned (OpenSpec.ofChange Rows.huffmanBeginsSpec) :=
  OpenClaim.holds_of_wide 8 Try.f8 rfl rfl rfl rfl rfl rfl rfl ⟨rfl, rfl, rfl, rfl, rfl⟩ rfl rfl rfl rfl rfl (by kernel_rfl) Try.func8 (by kernel_rfl)
    (of_decide_eq_true (by kernel_rfl)) (by unfold Func.isWrapper; first | (rw [if_pos (by decide +kernel)]; kernel_rfl) | (rw [if_neg (by decide +kernel)]; exact ⟨rfl, rfl⟩))
    (fun os started H enc _ => lifted os started H enc)

theorem proved : Rows.HuffmanBeginsSaid := over
#print axioms proved
end Go.Proofs.Ytkieallgompggaa.huffmanBegins
namespace Go.Proofs.Ytkieallgompggaa
theorem huffmanBegins_holds : Rows.HuffmanBeginsSaid := huffmanBegins.proved
end Go.Proofs.Ytkieallgompggaa
