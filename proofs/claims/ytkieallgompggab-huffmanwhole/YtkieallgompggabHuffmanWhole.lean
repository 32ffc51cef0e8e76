/-
Of complete lengths each row of 15 bits begins with just one code, and of any lengths that may be with at most one. No condition but the statement's own: at most 300 numbers.
-/
import Derived.Test.YtkieallgompggabRows
import Derived.Test.YtkieallgompggabFrame
import Derived.Test.YtkieallgompggabWho
import Derived.WalkKit
import Derived.ProofKit
import Derived.OpenShut
import Derived.ShutString
import Derived.ChangeOld
import Derived.Below
namespace Go.Proofs.Ytkieallgompggab.huffmanWhole
open Go.ChangeShapes Go.WideShapes Go.ChangeAt Go.RowKit
set_option linter.unusedVariables false
set_option linter.unusedSimpArgs false

set_option maxRecDepth 100000 in
set_option maxHeartbeats 4000000 in
theorem walk (a0 : Option Addr) (len0 cap0 : Nat) (z0 : List Int) (a1 : Int) (w : World) (w0 : IsRow .i64 w a0 len0 cap0 z0) (s0 : (len0 + 1) * 8 ≤ 140737488355328) (w1 : (Lit.int .i64 a1).wf = true) :
    Calls Try.prog 3 #[.slice a0 len0 cap0, .int .i64 a1] w fun e w' => e = .returned (.bool true) ∧ Below w.heap.size w w' := by
  obtain ⟨l, hl, hB, hs⟩ := row_ints w0
  have HL : Hid (l.length = len0) := hl
  have HS : Hid (Src w a0 len0 cap0 (ci l)) := hs
  have HZ : Hid ((len0 + 1) * 8 ≤ 140737488355328) := s0
  clear w0 hB hs hl s0 w1
  by_cases hbig : 300 < len0
  · have hbig' : (300 : Int) < (len0 : Int) := by omega
    clear HL HS HZ hbig
    go_enter Try.func3, Try.ntmps3
    go_wp2_with fail
    refine (works_any w).mono ?_
    rintro e W6 ⟨rfl, hb6⟩
    go_wp2_with fail
    go_ret
    exact ⟨rfl, hb6⟩
  have hsm : ¬ (300 : Int) < (len0 : Int) := by omega
  by_cases hneg : a1 < 0
  · clear HL HS HZ hbig
    go_enter Try.func3, Try.ntmps3
    go_wp2_with fail
    refine (works_any w).mono ?_
    rintro e W6 ⟨rfl, hb6⟩
    go_wp2_with fail
    go_ret
    exact ⟨rfl, hb6⟩
  by_cases hgr : (32768 : Int) ≤ a1
  · clear HL HS HZ hbig
    go_enter Try.func3, Try.ntmps3
    go_wp2_with fail
    refine (works_any w).mono ?_
    rintro e W6 ⟨rfl, hb6⟩
    go_wp2_with fail
    go_ret
    exact ⟨rfl, hb6⟩
  obtain ⟨r, rfl⟩ := Int.eq_ofNat_of_zero_le (show 0 ≤ a1 by omega)
  have hr : r < 32768 := by omega
  have KW := weigh_any w a0 len0 cap0 l HS.out (by have := HZ.out; omega)
  by_cases h0 : refu 15 l = 0
  · by_cases hw : (32768 : Int) < weiV l
    · rw [h0] at KW
      generalize weiV l = v at *
      go_enter Try.func3, Try.ntmps3
      go_wp2_with fail
      refine KW.mono ?_
      rintro e W2 ⟨rfl, hb2⟩
      clear KW
      go_wp2_with fail
      refine (num_any 0 W2).mono ?_
      rintro e wx ⟨rfl, hwx⟩
      obtain rfl := hwx.symm
      go_wp2_with fail
      refine (works_any W2).mono ?_
      rintro e W4 ⟨rfl, hb4⟩
      go_wp2_with fail
      go_ret
      exact ⟨rfl, hb2.trans (hb4.mono hb2.size)⟩
    · obtain ⟨hc, hv⟩ := refC_of h0 hw
      obtain ⟨h1, h2⟩ := refC_ok hc
      obtain ⟨m, rfl, h15⟩ := h2
      rw [nm_toNat] at hv
      have hlen : len0 ≤ 1000 := by omega
      have HD : ∀ j, m.getD j 0 ≤ 15 := getD15 h15
      have HOK : Hid (cntF m r 16 ≤ 1) := (cntF_le HD r 16).1
      have HOW : Hid (((wgt m : Nat) : Int) = 32768 → cntF m r 16 = 1) := fun h => cntF_whole HD hr (by omega)
      have HC1 : Hid (∀ k, cntF m r k ≤ 1) := fun k => (cntF_le HD r k).1
      have KF : Hid (∀ (W : World) (L : Nat), Below w.heap.size w W → Calls Try.prog 8 #[.slice a0 len0 cap0, .int .i64 ((r / 2 ^ (15 - L) : Nat) : Int), .int .i64 (L : Int)] W fun e w' => ∃ s : Int, e = .returned (.tuple #[.int .i64 s, .bool (fc m r L)]) ∧ Below W.heap.size W w') := fun W L h => (find_ok W a0 len0 cap0 m _ _ (HS.out.later h) hlen h15 hc).mono fun e w' h => ⟨_, h.1, h.2⟩
      rw [h0, hv] at KW
      have hw' : ¬ (32768 : Int) < ((wgt m : Nat) : Int) := by rw [← hv]; exact hw
      have HCN : Hid (∀ k, 1 ≤ k → cntF m r (k + 1) = cntF m r k + if fc m r k = true then 1 else 0) := fun k hk => by
        show _ = _
        rw [cntF]
        by_cases h : fc m r k = true
        · rw [if_pos ⟨hk, h⟩, if_pos h]
        · rw [if_neg (fun q => h q.2), if_neg h]
      have HC0 : Hid (cntF m r 1 = 0) := by show _ = _; simp [cntF]
      clear h0 hv hw hc h1 h15 HD hr hbig HL HS HZ
      generalize ((wgt m : Nat) : Int) = v at *
      have hwb : decide ((32768 : Int) < v) = false := decide_eq_false hw'
      clear hw' hlen
      generalize cntF m r = f at *
      generalize fc m r = F at *
      refine calls_of fun Q HQ => ?_
      have QT : Hid (∀ w', Below w.heap.size w w' → Q (.returned (.bool true)) w') := fun w' h => HQ _ _ ⟨rfl, h⟩
      clear HQ
      go_enter Try.func3, Try.ntmps3
      go_wp2_with fail
      refine KW.mono ?_
      rintro e W2 ⟨rfl, hb2⟩
      clear KW
      go_wp2_with fail
      refine (num_any 0 W2).mono ?_
      rintro e wx ⟨rfl, hwx⟩
      obtain rfl := hwx.symm
      clear hneg hgr hsm
      go_wp2_with fail
      go_loopw [7, 8] (fun nv c wr => ∃ k : Nat, 1 ≤ k ∧ k ≤ 16 ∧ c = .int .i64 k ∧ nv = .int .i64 ((f k : Nat) : Int) ∧ Below w.heap.size w wr) (fun _ c _ => 16 - (intOf c).toNat)
      case atStart => exact ⟨1, Nat.le_refl _, by omega, rfl, by rw [HC0.out]; rfl, hb2⟩
      case round =>
        clear hb2
        obtain ⟨k, hk1, hk, rfl, rfl, bel⟩ := hrel
        by_cases hlt : k ≤ 15
        · have hlt' : (k : Int) ≤ 15 := by omega
          obtain ⟨s, hs⟩ : ∃ s, s = 15 - k := ⟨_, rfl⟩
          have hsi : (15 : Int) - (k : Int) = (s : Int) := by omega
          have hs15 : (s : Int) ≤ 15 := by omega
          have hsh := shr_nat r s
          have K := KF.out wr k bel
          rw [← hs] at K
          have HN := HCN.out k hk1
          have HB := HC1.out k
          have HBi : ((f k : Nat) : Int) ≤ 1 := Int.ofNat_le.2 HB
          clear hs
          generalize r / 2 ^ s = q at *
          by_cases hf : F k = true
          · rw [hf] at K
            rw [if_pos hf] at HN
            have HN' : Hid ((f k : Nat) + 1 = f (k + 1)) := HN.symm
            clear HN hf
            generalize f k = n0 at *
            go_wp2_with fail
            refine K.mono ?_
            rintro e W4 ⟨s4, rfl, hb4⟩
            clear K
            go_wp2_with fail
            go_roundw
            case rel => exact ⟨k + 1, by omega, by omega, by go_num, by rw [← HN'.out]; go_num, bel.trans (hb4.mono bel.size)⟩
            case measure => simp [intOf]; omega
          · rw [show F k = false from by simpa using hf] at K
            rw [if_neg hf] at HN
            have HN' : Hid (f k = f (k + 1)) := HN.symm
            clear HN hf
            generalize f k = n0 at *
            go_wp2_with fail
            refine K.mono ?_
            rintro e W4 ⟨s4, rfl, hb4⟩
            clear K
            go_wp2_with fail
            go_roundw
            case rel => exact ⟨k + 1, by omega, by omega, by go_num, by rw [← HN'.out], bel.trans (hb4.mono bel.size)⟩
            case measure => simp [intOf]; omega
        · have hge : ¬ (k : Int) ≤ 15 := by omega
          obtain rfl : k = 16 := by omega
          have HB := HOK.out
          have HW := HOW.out
          clear HOK HOW HC1 HCN HC0 KF
          generalize f 16 = n0 at *
          have HBi : (n0 : Int) ≤ 1 := by omega
          by_cases hv : v = 32768
          · obtain rfl := HW hv
            subst hv
            clear HW HB
            go_wp2_with fail
            refine (works_any wr).mono ?_
            rintro e W4 ⟨rfl, hb4⟩
            go_wp2_with fail
            exact QT.out _ (bel.trans (hb4.mono bel.size))
          · have hvb : (v != 32768) = true := by simpa using hv
            clear HW HB hv
            go_wp2_with fail
            refine (works_any wr).mono ?_
            rintro e W4 ⟨rfl, hb4⟩
            go_wp2_with fail
            exact QT.out _ (bel.trans (hb4.mono bel.size))
  · generalize weiV l = v at *
    generalize refu 15 l = q at *
    have h0' : (q != 0) = true := by simpa using h0
    go_enter Try.func3, Try.ntmps3
    go_wp2_with fail
    refine KW.mono ?_
    rintro e W2 ⟨rfl, hb2⟩
    clear KW
    go_wp2_with fail
    refine (num_any q W2).mono ?_
    rintro e wx ⟨rfl, hwx⟩
    obtain rfl := hwx.symm
    go_wp2_with fail
    refine (works_any W2).mono ?_
    rintro e W4 ⟨rfl, hb4⟩
    go_wp2_with fail
    go_ret
    exact ⟨rfl, hb2.trans (hb4.mono hb2.size)⟩

set_option maxRecDepth 100000 in
theorem lifted (os : Os) (started : os.Started) (H : Type) (enc : TypeId × Value → H) :
    ReturnsInHanded {} Try.checked os 3 .any (Rows.huffmanWholeSpec.pre6 enc Try.prog Try.f3 Rows.huffmanWholeRow.domain false) (Rows.huffmanWholeSpec.post enc Try.prog Try.f3 false true false false) := by
  refine returnsInHanded_of_change_sized (C := Try.checked) own started (by kernel_rfl) Try.func3
    (ChangeSpec.witness6 (enc := enc) (C := Try.checked) false ⟨#[], #[.slice none 0 0, .int .i64 0], []⟩ 8 (by kernel_rfl) (by kernel_rfl) (by kernel_rfl) (by kernel_rfl)) ?_
  intro W base args ds gs before hval0 hW hcnd hsz0 _
  have hsz : (DataW.weightsEach Try.prog (Try.f3.params.toList ++ Rows.huffmanWholeSpec.plain.varTypes Try.prog) (ds ++ gs)).all (· ≤ reachBytes) = true := hsz0
  clear hsz0
  have hval : ∀ (j : Nat) t v, Try.f3.params[j]? = some t → args[j]? = some v → Value.okWide Try.prog W .any base t v := hval0
  have hW' := hW
  obtain ⟨p, q, hA0, hV, rfl, hfz, hnd⟩ := hW
  have hA : DataW.TrodAll enc Try.prog W 0 (fun _ => true) true Try.f3.params.toList args.toList ds p := hA0
  rw [Try.params3] at hA hval hsz
  obtain ⟨v0, vs0, d0, ds0, p0, q0, hargs, rfl, rfl, h0, r0⟩ := trodAll_cons hA
  obtain ⟨v1, vs1, d1, ds1, p1, q1, rfl, rfl, rfl, h1, r1⟩ := trodAll_cons r0
  obtain ⟨rfl, rfl, rfl⟩ := trodAll_nil r1
  obtain rfl : args = #[v0, v1] := by cases args; simp_all
  obtain ⟨rfl, rfl⟩ := trodVars_none hV
  obtain ⟨a0, len0, cap0, rfl⟩ := okWide_slice Try.underlying22 (hval 0 22 v0 rfl rfl)
  have k0 := h0
  have lt0 : ∀ x ∈ p0, x.block < W.heap.size := by obtain ⟨m, hm⟩ := k0; exact DataW.trod_lt m _ _ _ hm
  obtain ⟨z0, w0, s0⟩ := row_open hsz 0 rfl rfl h0
  obtain ⟨a1, rfl, rfl, rfl, w1⟩ := open_int Try.underlying3 (hval 1 3 v1 rfl rfl) h1
  clear hA0 hval0
  refine (walk a0 len0 cap0 z0 a1 W w0 s0 w1).mono fun e W' ⟨he, bel⟩ => ?_
  subst he
  exact ⟨_, rfl, _, _, _, [], _, [], hW', trodAll_mk1 (shut_bool Try.underlying4 _), (trodAll_cons_mk (Below.trod laidOut (by kernel_rfl) (of_decide_eq_true (by kernel_rfl)) k0 bel lt0) (trodAll_cons_mk (shut_int Try.underlying3 w1) trodAll_mk0)), rfl, bel.frame _, fun h => by cases h⟩

theorem over : Rows.huffmanWholeRow.holds Try.pinned (OpenSpec.ofChange Rows.huffmanWholeSpec) :=
  OpenClaim.holds_of_wide 3 Try.f3 rfl rfl rfl rfl rfl rfl rfl ⟨rfl, rfl, rfl, rfl, rfl⟩ rfl rfl rfl rfl rfl (by kernel_rfl) Try.func3 (by kernel_rfl)
    (of_decide_eq_true (by kernel_rfl)) (by unfold Func.isWrapper; first | (rw [if_pos (by decide +kernel)]; kernel_rfl) | (rw [if_neg (by decide +kernel)]; exact ⟨rfl, rfl⟩))
    (fun os started H enc _ => lifted os started H enc)

theorem proved : Rows.HuffmanWholeSaid := over
#print axioms proved
end Go.Proofs.Ytkieallgompggab.huffmanWhole
namespace Go.Proofs.Ytkieallgompggab
theorem huffmanWhole_holds : Rows.HuffmanWholeSaid := huffmanWhole.proved
end Go.Proofs.Ytkieallgompggab
