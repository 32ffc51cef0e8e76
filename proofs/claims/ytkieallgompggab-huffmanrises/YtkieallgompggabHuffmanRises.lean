/-
A symbol with a greater count has no greater length, and twice the counts have the same cost, twice. No condition but the statement's own: at most 300 counts.
-/
import Derived.Test.YtkieallgompggabRows
import Derived.Test.YtkieallgompggabFrame
import Derived.Test.YtkieallgompggabRiseB
import Derived.WalkKit
import Derived.ProofKit
import Derived.OpenShut
import Derived.ShutString
import Derived.ChangeOld
import Derived.Below
namespace Go.Proofs.Ytkieallgompggab.huffmanRises
open Go.ChangeShapes Go.WideShapes Go.ChangeAt Go.RowKit
set_option linter.unusedVariables false
set_option linter.unusedSimpArgs false

set_option maxRecDepth 100000 in
set_option maxHeartbeats 40000000 in
theorem walk (a0 : Option Addr) (len0 cap0 : Nat) (z0 : List Int) (a1 : Int) (w : World) (w0 : IsRow .i64 w a0 len0 cap0 z0) (s0 : (len0 + 1) * 8 ≤ 140737488355328) (w1 : (Lit.int .i64 a1).wf = true) :
    Calls Try.prog 4 #[.slice a0 len0 cap0, .int .i64 a1] w fun e w' => e = .returned (.bool true) ∧ Below w.heap.size w w' := by
  obtain ⟨i0, hi, hz0, hz1, hz2⟩ := info_parts infoI
  obtain ⟨l, hl, hB, hs⟩ := row_ints w0
  have HL : Hid (l.length = len0) := hl
  have HS : Hid (Src w a0 len0 cap0 (ci l)) := hs
  have HZ : Hid ((len0 + 1) * 8 ≤ 140737488355328) := s0
  clear w0 hB hs hl s0 w1
  by_cases hbig : 300 < len0
  · have hbig' : (300 : Int) < (len0 : Int) := by omega
    clear HL HS HZ hbig
    go_enter Try.func4, Try.ntmps4
    go_wp2_with fail
    refine (works_any w).mono ?_
    rintro e W6 ⟨rfl, hb6⟩
    go_wp2_with fail
    go_ret
    exact ⟨rfl, hb6⟩
  have hsm : ¬ (300 : Int) < (len0 : Int) := by omega
  have hsm2 : (len0 : Int) ≤ 300 := by omega
  by_cases h0 : lenR l a1 = 0
  · obtain ⟨m, rfl, h15, g1, g2, g3⟩ := lenR_nm h0
    have HM : Hid (m.length = len0) := by have := HL.out; rwa [nm_len] at this
    have KW := lengths_yes w a0 len0 cap0 (nm m) a1 HS.out h0
    have HV : Hid (lenV (nm m) a1 = lensOf m (syms m) a1.toNat) := lenV_nm m a1
    have HVL : Hid ((lenV (nm m) a1).length = len0) := by have h := lenV_len (nm m) a1; rw [nm_len, HM.out] at h; exact h
    have HVB : Hid (∀ i, (lenV (nm m) a1).getD i 0 ≤ 15000) := fun i => by rw [HV.out]; exact lens_bound m _ (by rw [HM.out]; omega) (by omega) i
    have HRI : Hid (∀ i k, m.getD k 0 < m.getD i 0 → 0 < m.getD k 0 → (lenV (nm m) a1).getD i 0 ≤ (lenV (nm m) a1).getD k 0) := fun i k h1 h2 => by rw [HV.out]; exact lens_rise m _ i k h1 h2
    have HTW : Hid ((∀ x ∈ m, x ≤ 1000000000) → lenR (nm (twi m)) a1 = 0 ∧ lenV (nm (twi m)) a1 = lenV (nm m) a1) := fun h => ⟨lenR_twi h0 h, lenV_twi m a1⟩
    have HCO : Hid ((∀ x ∈ m, x ≤ 1000000000) → costV (nm (twi m)) (nm (lenV (nm m) a1)) = 2 * costV (nm m) (nm (lenV (nm m) a1)) ∧ 0 ≤ costV (nm m) (nm (lenV (nm m) a1)) ∧ costV (nm m) (nm (lenV (nm m) a1)) ≤ 1000000000000000000) := fun h => cost_twi m _ (by rw [HM.out]; omega) (getD_le h) HVB.out
    have H31 : Hid (∀ i, m.getD i 0 ≤ 2147483647) := getD_le h15
    refine calls_of fun Q HQ => ?_
    have QT : Hid (∀ w', Below w.heap.size w w' → Q (.returned (.bool true)) w') := fun w' h => HQ _ _ ⟨rfl, h⟩
    clear HQ HV g3 h0 h15
    generalize lenV (nm m) a1 = V at *
    go_enter Try.func4, Try.ntmps4
    go_wp2_with fail
    refine KW.mono ?_
    rintro e W2 ⟨R2, rfl, hv2, hr2, hb2⟩
    clear KW
    have HSR : Hid (∀ W j, Below W2.heap.size W2 W → j < len0 → ∃ g off, a0 = some ⟨g, off, none⟩ ∧ W.cell? ⟨g, off + j, none⟩ = some (.int .i64 ((m.getD j 0 : Nat) : Int))) := fun W j hW hj => src_atn ((HS.out.later hb2).later hW) hj
    have HSS : Hid (∀ W, Below W2.heap.size W2 W → Src W a0 len0 cap0 (cn m)) := fun W hW => (HS.out.later hb2).later hW
    have HVV : Hid (∀ W, Below W2.heap.size W2 W → Src W (some ⟨R2, 0, none⟩) len0 len0 (cn V)) := fun W hW => by
      have h := (hv2.later hW hv2.lt).src len0
      rw [HVL.out] at h
      exact h
    have HVR : Hid (∀ W j, Below W2.heap.size W2 W → j < len0 → W.cell? ⟨R2, j, none⟩ = some (.int .i64 ((V.getD j 0 : Nat) : Int))) := fun W j hW hj => (hv2.later hW hv2.lt).cell (by rw [HVL.out]; exact hj)
    have QT2 : Hid (∀ w', Below W2.heap.size W2 w' → Q (.returned (.bool true)) w') := fun w' h => QT.out w' (hb2.trans (h.mono hb2.size))
    clear QT hv2 hr2 hb2 HS HL HZ
    go_wp2_with fail
    refine (num_any 0 W2).mono ?_
    rintro e wx ⟨rfl, hwx⟩
    obtain rfl := hwx.symm
    go_wp2_with fail
    go_loopw [7, 8] (fun tv c wr => ∃ j : Nat, j ≤ len0 ∧ c = .int .i64 j ∧ wr.ownsRow W2.heap.size 3 1 tv (twi (m.take j)).length (cn (twi (m.take j))) ∧ Hid (∀ x ∈ m.take j, x ≤ 1000000000) ∧ Below W2.heap.size W2 wr) (fun _ c _ => len0 - (intOf c).toNat)
    case atStart => exact ⟨0, Nat.zero_le _, rfl, World.ownsRow_nil W2 _ _ _, fun x hx => by simp at hx, Below.refl _ _⟩
    case round =>
      obtain ⟨j, hj, rfl, hown, HT, bel⟩ := hrel
      obtain ⟨ad, cp, rfl⟩ := own_sl hown
      by_cases hlt : j < len0
      · have hlt' : (j : Int) < (len0 : Int) := by omega
        obtain ⟨g, off, rfl, c1⟩ := HSR.out wr j bel hlt
        have HKY : Hid (∀ W k, Below W2.heap.size W2 W → k < len0 → W.cell? ⟨g, off + k, none⟩ = some (.int .i64 ((m.getD k 0 : Nat) : Int))) := fun W k hW hk => by
          obtain ⟨g', off', e, h⟩ := HSR.out W k hW hk
          cases e
          exact h
        have HRJ : Hid (∀ k, m.getD k 0 < m.getD j 0 → 0 < m.getD k 0 → V.getD j 0 ≤ V.getD k 0) := fun k => HRI.out j k
        have HX31 : m.getD j 0 ≤ 2147483647 := H31.out j
        have HX31i : ((m.getD j 0 : Nat) : Int) ≤ 2147483647 := Int.ofNat_le.2 HX31
        have HTS : Hid (twi (m.take (j + 1)) = twi (m.take j) ++ [2 * m.getD j 0]) := twi_snoc m j (by rw [HM.out]; exact hlt)
        have HT2 : Hid (m.getD j 0 ≤ 1000000000 → ∀ x ∈ m.take (j + 1), x ≤ 1000000000) := fun h x hx => by
          rw [take_succ_getD m j (by rw [HM.out]; exact hlt)] at hx
          rcases List.mem_append.1 hx with h1 | h1
          · exact HT.out x h1
          · rw [List.mem_singleton.1 h1]; exact h
        have HC1 : Hid (∀ W, Below W2.heap.size W2 W → W.cell? ⟨g, off + j, none⟩ = some (.int .i64 ((m.getD j 0 : Nat) : Int)) ∧ W.cell? ⟨R2, j, none⟩ = some (.int .i64 ((V.getD j 0 : Nat) : Int))) := fun W hW => ⟨HKY.out W j hW hlt, HVR.out W j hW hlt⟩
        have HTL : Hid ((twi (m.take j)).length ≤ 300) := by show _ ≤ _; rw [twi_len, List.length_take]; omega
        have HO : Hid (wr.ownsRow W2.heap.size 3 1 (.slice ad (twi (m.take j)).length cp) (twi (m.take j)).length (cn (twi (m.take j)))) := hown
        clear c1 hown HSR HRI HT HX31
        generalize hgx : m.getD j 0 = x at *
        generalize V.getD j 0 = z at *
        generalize twi (m.take j) = T at *
        clear hgx
        go_wp2_with fail
        go_loopw [9] (fun c wi => ∃ k : Nat, k ≤ len0 ∧ c = .int .i64 k ∧ Hid (wi.ownsRow W2.heap.size 3 1 (.slice ad T.length cp) T.length (cn T)) ∧ Below W2.heap.size W2 wi) (fun c _ => len0 - (intOf c).toNat)
        case atStart => exact ⟨0, Nat.zero_le _, rfl, HO, bel⟩
        case round =>
          clear bel HO
          obtain ⟨k, hk, rfl, HO, bel⟩ := hrel
          obtain ⟨c1, c2⟩ := HC1.out _ bel
          by_cases hlk : k < len0
          · have hlk' : (k : Int) < (len0 : Int) := by omega
            have c3 := HKY.out _ k bel hlk
            have c4 := HVR.out _ k bel hlk
            have HRk := HRJ.out k
            generalize m.getD k 0 = y at *
            generalize V.getD k 0 = v at *
            by_cases hxy : y < x
            · have b1 : decide ((y : Int) < (x : Int)) = true := decide_eq_true (by omega)
              have b1n : decide (y < x) = true := decide_eq_true hxy
              by_cases hy0 : 0 < y
              · have b2 : decide ((0 : Int) < (y : Int)) = true := decide_eq_true (by omega)
                have b2n : decide (0 < y) = true := decide_eq_true hy0
                have hzv := HRk hxy hy0
                have b3 : decide ((v : Int) < (z : Int)) = false := decide_eq_false (by omega)
                have b3n : decide (v < z) = false := decide_eq_false (by omega)
                clear HRk hzv
                go_wp2_with fail
                go_big_quiet (fail)
                go_wp2_with fail
                go_roundw
                case rel => exact ⟨k + 1, by omega, by go_num, HO, ⟨bel.os, bel.tape, bel.output, bel.size, bel.block⟩⟩
                case measure => simp [intOf]; omega
              · have b2 : decide ((0 : Int) < (y : Int)) = false := decide_eq_false (by omega)
                have b2n : decide (0 < y) = false := decide_eq_false hy0
                clear HRk
                go_wp2_with fail
                go_big_quiet (fail)
                go_wp2_with fail
                go_roundw
                case rel => exact ⟨k + 1, by omega, by go_num, HO, ⟨bel.os, bel.tape, bel.output, bel.size, bel.block⟩⟩
                case measure => simp [intOf]; omega
            · have b1 : decide ((y : Int) < (x : Int)) = false := decide_eq_false (by omega)
              have b1n : decide (y < x) = false := decide_eq_false hxy
              clear HRk
              go_wp2_with fail
              go_big_quiet (fail)
              go_wp2_with fail
              go_roundw
              case rel => exact ⟨k + 1, by omega, by go_num, HO, ⟨bel.os, bel.tape, bel.output, bel.size, bel.block⟩⟩
              case measure => simp [intOf]; omega
          · have hge : (len0 : Int) ≤ (k : Int) := by omega
            clear hlk HRJ
            by_cases hgr : 1000000000 < x
            · have hgr' : (1000000000 : Int) < (x : Int) := by omega
              clear hgr HT2
              go_wp2_with fail
              refine (works_any wr).mono ?_
              rintro e W4 ⟨rfl, hb4⟩
              go_wp2_with fail
              exact QT2.out _ (bel.trans (hb4.mono bel.size))
            · have hgr' : (x : Int) ≤ 1000000000 := by omega
              have hgb : decide ((1000000000 : Int) < (x : Int)) = false := decide_eq_false (by omega)
              have HT3 := HT2.out (by omega)
              have HT4 : Hid (∀ x ∈ m.take (j + 1), x ≤ 1000000000) := HT3
              obtain ⟨x2, hx2⟩ : ∃ x2, x2 = 2 * x := ⟨_, rfl⟩
              have hx2i : (2 : Int) * (x : Int) = (x2 : Int) := by omega
              have hx2b : (x2 : Int) ≤ 2000000000 := by omega
              have HTS2 : Hid (twi (m.take (j + 1)) = T ++ [x2]) := by rw [hx2]; exact HTS.out
              have HMM : Hid (T.length + 1 ≤ maxLen ∧ (T.length + 1) * 8 ≤ 140737488355328) := by have := HTL.out; exact ⟨by unfold maxLen; omega, by omega⟩
              have HZZ : Hid (W2.heap.size ≤ (wr.alloc (.cells #[.int .i64 (x2 : Int)] 3)).heap.size) := by have := bel.size; show _ ≤ _; simp; omega
              have hll : (T.length : Int) ≤ 300 := Int.ofNat_le.2 HTL.out
              clear hgr HT2 HT3 HTS hx2
              go_wp2_with (at_builtin; refine wpList_append_own _ rfl (.tmp 81) (.tmp 87) 22 rfl W2.heap.size 3 i0 (.int .i64 0) 1 8 Try.underlying22 hi hz0 hz1 hz2 rfl (by decide) _ T.length (cn T) rfl (HO.out.alloc _) ⟨wr.heap.size, 0, none⟩ 1 1 [.int .i64 (x2 : Int)] rfl rfl (new_news wr [.int .i64 (x2 : Int)] 3 (0, 0)) (cn_one [x2]) HMM.out.1 HMM.out.2 HZZ.out ?_; intro v2 W5 hown2 hg2 _; have HO2 : Hid (W5.ownsRow W2.heap.size 3 1 v2 (T.length + 1) (cn T ++ [.int .i64 (x2 : Int)])) := hown2; have HG2 : Hid (Below W2.heap.size W2 W5) := bel.trans (((Below.refl _ wr).alloc (bel.size) _).grown hg2 HZZ.out (fun k hk => (HO.out.lt k hk).1)); clear hown2 hg2)
              go_roundw
              case rel => exact ⟨j + 1, by omega, by go_num, by rw [HTS2.out, cn_append, List.length_append]; exact HO2.out, HT4, HG2.out⟩
              case measure => simp [intOf]; omega
      · have hge : (len0 : Int) ≤ (j : Int) := by omega
        obtain rfl : j = len0 := by omega
        have etk : m.take j = m := List.take_of_length_le (by rw [HM.out]; omega)
        have HA9 : ∀ x ∈ m, x ≤ 1000000000 := by
          have h := HT.out
          rwa [etk] at h
        have hTm : (twi m).length = j := by rw [twi_len, HM.out]
        rw [etk, hTm] at hown ⊢
        have HSl : Hid (Src wr ad j cp (cn (twi m))) := (src_own hown).2
        obtain ⟨t1, t2⟩ := HTW.out HA9
        obtain ⟨q1, q2, q3⟩ := HCO.out HA9
        have KL := lengths_yes wr ad j cp (nm (twi m)) a1 HSl.out t1
        rw [t2] at KL
        have HT64 : Hid (∀ i, (nm (twi m)).getD i 0 ≤ 9223372036854775807) := fun i => by rw [nm_getD, twi_getD]; have := getD_le HA9 i; omega
        have HM64 : Hid (∀ i, (nm m).getD i 0 ≤ 9223372036854775807) := fun i => by rw [nm_getD]; have := getD_le HA9 i; omega
        have HV64 : Hid (∀ i, (nm V).getD i 0 ≤ 9223372036854775807) := fun i => by rw [nm_getD]; have := HVB.out i; omega
        have HQ1 : Hid (costV (nm (twi m)) (nm V) = 2 * costV (nm m) (nm V)) := q1
        clear hown HT HA9 t1 t2 q1 HTW HCO HRI HVB H31 HSR HVR etk
        go_wp2_with fail
        refine KL.mono ?_
        rintro e W3 ⟨R3, rfl, hv3, hr3, hb3⟩
        have b3 : Below W2.heap.size W2 W3 := bel.trans (hb3.mono bel.size)
        have K1 := cost_any W3 ad (some ⟨R3, 0, none⟩) j j cp j (nm (twi m)) (nm V) (HSl.out.later hb3) (by have h := hv3.src j; rw [HVL.out] at h; exact h) (by omega) (by omega) HT64.out HV64.out
        have K2 := fun W (hW : Below W2.heap.size W2 W) => cost_any W a0 (some ⟨R2, 0, none⟩) j j cap0 j (nm m) (nm V) (HSS.out W hW) (HVV.out W hW) (by omega) (by omega) HM64.out HV64.out
        rw [HQ1.out] at K1
        clear KL hv3 hr3 hb3 HQ1 hTm
        generalize costV (nm m) (nm V) = C at *
        go_wp2_with fail
        refine (num_any 0 W3).mono ?_
        rintro e wx ⟨rfl, hwx⟩
        obtain rfl := hwx.symm
        go_wp2_with fail
        refine K1.mono ?_
        rintro e W4 ⟨rfl, hb4⟩
        have b4 : Below W2.heap.size W2 W4 := b3.trans (hb4.mono b3.size)
        clear K1
        go_wp2_with fail
        refine (K2 W4 b4).mono ?_
        rintro e W5 ⟨rfl, hb5⟩
        have b5 : Below W2.heap.size W2 W5 := b4.trans (hb5.mono b4.size)
        clear K2
        go_wp2_with fail
        refine (works_any W5).mono ?_
        rintro e W6 ⟨rfl, hb6⟩
        go_wp2_with fail
        exact QT2.out _ (b5.trans (hb6.mono b5.size))
  · have KW := lengths_no w a0 len0 cap0 l a1 HS.out (by have := HZ.out; omega) h0
    generalize lenR l a1 = q at *
    have h0' : (q != 0) = true := by simpa using h0
    go_enter Try.func4, Try.ntmps4
    go_wp2_with fail
    refine KW.mono ?_
    rintro e W2 ⟨rfl, hb2⟩
    clear KW
    go_wp2_with fail
    refine (num_any q W2).mono ?_
    rintro e wx ⟨rfl, hwx⟩
    obtain rfl := hwx.symm
    go_wp2_with fail
    refine (works_any W2).mono ?_
    rintro e W4 ⟨rfl, hb4⟩
    go_wp2_with fail
    go_ret
    exact ⟨rfl, hb2.trans (hb4.mono hb2.size)⟩

set_option maxRecDepth 100000 in
theorem lifted (os : Os) (started : os.Started) (H : Type) (enc : TypeId × Value → H) :
    ReturnsInHanded {} Try.checked os 4 .any (Rows.huffmanRisesSpec.pre6 enc Try.prog Try.f4 Rows.huffmanRisesRow.domain false) (Rows.huffmanRisesSpec.post enc Try.prog Try.f4 false true false false) := by
  refine returnsInHanded_of_change_sized (C := Try.checked) own started (by kernel_rfl) Try.func4
    (ChangeSpec.witness6 (enc := enc) (C := Try.checked) false ⟨#[], #[.slice none 0 0, .int .i64 0], []⟩ 8 (by kernel_rfl) (by kernel_rfl) (by kernel_rfl) (by kernel_rfl)) ?_
  intro W base args ds gs before hval0 hW hcnd hsz0 _
  have hsz : (DataW.weightsEach Try.prog (Try.f4.params.toList ++ Rows.huffmanRisesSpec.plain.varTypes Try.prog) (ds ++ gs)).all (· ≤ reachBytes) = true := hsz0
  clear hsz0
  have hval : ∀ (j : Nat) t v, Try.f4.params[j]? = some t → args[j]? = some v → Value.okWide Try.prog W .any base t v := hval0
  have hW' := hW
  obtain ⟨p, q, hA0, hV, rfl, hfz, hnd⟩ := hW
  have hA : DataW.TrodAll enc Try.prog W 0 (fun _ => true) true Try.f4.params.toList args.toList ds p := hA0
  rw [Try.params4] at hA hval hsz
  obtain ⟨v0, vs0, d0, ds0, p0, q0, hargs, rfl, rfl, h0, r0⟩ := trodAll_cons hA
  obtain ⟨v1, vs1, d1, ds1, p1, q1, rfl, rfl, rfl, h1, r1⟩ := trodAll_cons r0
  obtain ⟨rfl, rfl, rfl⟩ := trodAll_nil r1
  obtain rfl : args = #[v0, v1] := by cases args; simp_all
  obtain ⟨rfl, rfl⟩ := trodVars_none hV
  obtain ⟨a0, len0, cap0, rfl⟩ := okWide_slice Try.underlying22 (hval 0 22 v0 rfl rfl)
  have k0 := h0
  have lt0 : ∀ x ∈ p0, x.block < W.heap.size := by obtain ⟨m, hm⟩ := k0; exact DataW.trod_lt m _ _ _ hm
  obtain ⟨z0, w0, s0⟩ := row_open hsz 0 rfl rfl h0
  obtain ⟨a1, rfl, rfl, rfl, w1⟩ := open_int Try.underlying3 (hval 1 3 v1 rfl rfl) h1
  clear hA0 hval0
  refine (walk a0 len0 cap0 z0 a1 W w0 s0 w1).mono fun e W' ⟨he, bel⟩ => ?_
  subst he
  exact ⟨_, rfl, _, _, _, [], _, [], hW', trodAll_mk1 (shut_bool Try.underlying4 _), (trodAll_cons_mk (Below.trod laidOut (by kernel_rfl) (of_decide_eq_true (by kernel_rfl)) k0 bel lt0) (trodAll_cons_mk (shut_int Try.underlying3 w1) trodAll_mk0)), rfl, bel.frame _, fun h => by cases h⟩

theorem over : Rows.huffmanRisesRow.holds Try.pinned (OpenSpec.ofChange Rows.huffmanRisesSpec) :=
  OpenClaim.holds_of_wide 4 Try.f4 rfl rfl rfl rfl rfl rfl rfl ⟨rfl, rfl, rfl, rfl, rfl⟩ rfl rfl rfl rfl rfl (by kernel_rfl) Try.func4 (by kernel_rfl)
    (of_decide_eq_true (by kernel_rfl)) (by unfold Func.isWrapper; first | (rw [if_pos (by decide +kernel)]; kernel_rfl) | (rw [if_neg (by decide +kernel)]; exact ⟨rfl, rfl⟩))
    (fun os started H enc _ => lifted os started H enc)

theorem proved : Rows.HuffmanRisesSaid := over
#print axioms proved
end Go.Proofs.Ytkieallgompggab.huffmanRises
namespace Go.Proofs.Ytkieallgompggab
theorem huffmanRises_holds : Rows.HuffmanRisesSaid := huffmanRises.proved
end Go.Proofs.Ytkieallgompggab
