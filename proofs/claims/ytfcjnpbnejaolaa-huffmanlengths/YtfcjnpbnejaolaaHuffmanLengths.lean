/-
For any counts and any limit huffman.Lengths refuses what the reference's Refused refuses, or answers lengths within the limit for just the symbols that have counts, which are complete and cost what the reference's Least tells (where two symbols or more, at most 40, have counts; where more have the law asks the chapter's examples alone); the counts stay. No condition.
-/
import Derived.Test.YtfcjnpbnejaolaaRows
import Derived.Test.YtfcjnpbnejaolaaFrame
import Derived.Test.YtfcjnpbnejaolaaLawL
import Derived.WalkKit
import Derived.ProofKit
import Derived.OpenShut
import Derived.ShutString
import Derived.ChangeOld
import Derived.Below
namespace Go.Proofs.Ytfcjnpbnejaolaa.huffmanLengths
open Go.ChangeShapes Go.WideShapes Go.ChangeAt Go.RowKit
set_option linter.unusedVariables false
set_option linter.unusedSimpArgs false

set_option maxRecDepth 100000 in
set_option maxHeartbeats 4000000 in
theorem walk (a0 : Option Addr) (len0 cap0 : Nat) (z0 : List Int) (a1 : Int) (w : World) (w0 : IsRow .i64 w a0 len0 cap0 z0) (s0 : (len0 + 1) * 8 ≤ 140737488355328) (w1 : (Lit.int .i64 a1).wf = true) :
    Calls Try.prog 3 #[.slice a0 len0 cap0, .int .i64 a1] w fun e w' => e = .returned (.bool true) ∧ Below w.heap.size w w' := by
  obtain ⟨l, hl, hB, hs⟩ := row_ints w0
  have HL : Hid (l.length = len0) := hl
  have HS : Hid (Src w a0 len0 cap0 (ci l)) := hs
  have HZ : Hid ((len0 + 1) * 8 ≤ 140737488355328) := s0
  have HB64 : Hid (∀ j, l.getD j 0 ≤ 9223372036854775807) := hB
  have hlen : len0 ≤ 17592186044415 := by omega
  have hlen' : (len0 : Int) ≤ 17592186044415 := by omega
  have K0 := refused_any w a0 len0 cap0 l a1 hs (by omega)
  have KL := lent_any w a0 cap0 len0 l hs s0
  refine calls_of fun Q HQ => ?_
  have QT : Hid (∀ w', Below w.heap.size w w' → Q (.returned (.bool true)) w') := fun w' h => HQ _ _ ⟨rfl, h⟩
  clear w0 hB hs hl s0 w1 HQ
  obtain ⟨no, hno⟩ : ∃ x, lenR l a1 = x := ⟨_, rfl⟩
  have HNO : Hid (lenR l a1 = no) := hno
  rw [hno] at K0
  clear hno
  go_enter Try.func3, Try.ntmps3
  go_wp2_with fail
  refine K0.mono ?_
  rintro e wx ⟨rfl, hwx⟩
  obtain rfl := hwx.symm
  clear K0
  go_wp2_with fail
  go_loop [6, 7] (fun nv iv => ∃ (i n : Nat), i ≤ len0 ∧ n ≤ i ∧ nv = .int .i64 (n : Int) ∧ iv = .int .i64 (i : Int) ∧ Hid (n = cpos (l.take i))) (fun _ iv => len0 - (intOf iv).toNat)
  case atStart => exact ⟨0, 0, Nat.zero_le _, Nat.le_refl _, rfl, rfl, by show _ = _; simp [cpos]⟩
  case round =>
    obtain ⟨i, n, hi, hn, rfl, rfl, HI⟩ := hrel
    by_cases hlt : i < len0
    · have hlt' : (i : Int) < (len0 : Int) := by omega
      obtain ⟨g, off, rfl, hc⟩ := src_at HS.out hlt
      have HC : Hid (cpos (l.take (i + 1)) = n + if 0 < l.getD i 0 then 1 else 0) := by show _ = _; rw [cpos_succ l i (by rw [HL.out]; exact hlt), HI.out]
      generalize l.getD i 0 = x at *
      by_cases hx : 0 < x
      · have HC2 : Hid (n + 1 = cpos (l.take (i + 1))) := by show _ = _; rw [HC.out, if_pos hx]
        go_wp2_with fail
        go_round
        case rel => exact ⟨i + 1, n + 1, by omega, by omega, by go_num, by go_num, HC2⟩
        case measure => simp [intOf]; omega
      · have HC2 : Hid (n = cpos (l.take (i + 1))) := by show _ = _; rw [HC.out, if_neg hx]; rfl
        go_wp2_with fail
        go_round
        case rel => exact ⟨i + 1, n, by omega, by omega, rfl, by go_num, HC2⟩
        case measure => simp [intOf]; omega
    · have hge : (len0 : Int) ≤ (i : Int) := by omega
      have HN : Hid (n = cpos l) := by
        have h := HI.out
        rwa [List.take_of_length_le (by rw [HL.out]; omega)] at h
      have hnb : (n : Int) ≤ 17592186044415 := by omega
      clear HI
      by_cases h0 : no = 0
      · subst h0
        obtain ⟨hq1, m, hq2, hq3⟩ : l.length ≤ 1000 ∧ ∃ m : List Nat, l = nm m ∧ True := by
          obtain ⟨m, h1, _, _, _, h2⟩ := lenR_nm HNO.out
          exact ⟨h2, m, h1, trivial⟩
        subst hq2
        obtain ⟨L, F⟩ := law_facts HNO.out
        have HF : Hid (LawF m a1 (lenV (nm m) a1) L) := F
        have HNS : Hid (n = (syms m).length) := by show _ = _; rw [HN.out, cpos_syms]
        have HLIM : Hid (a1 = (L : Int) ∧ 1 ≤ L ∧ L ≤ 15) := F.lim
        have ha1 : 1 ≤ a1 := by have := HLIM.out; omega
        have ha15 : a1 ≤ 15 := by have := HLIM.out; omega
        have hlen1 : len0 ≤ 1000 := by rw [← HL.out]; exact hq1
        have hlen1' : (len0 : Int) ≤ 1000 := by omega
        clear F hq1 hq3
        by_cases h40 : 40 < n
        · have h40' : (40 : Int) < (n : Int) := by omega
          go_wp2_with fail
          refine (works_any w).mono ?_
          rintro e W1 ⟨rfl, hb1⟩
          go_wp2_with fail
          exact QT.out _ hb1
        have h40' : (n : Int) ≤ 40 := by omega
        have hml : m.length = len0 := by have := HL.out; rwa [nm_len] at this
        have HML : Hid (m.length = len0) := hml
        have HVL : Hid ((lenV (nm m) a1).length = len0) := by show _ = _; rw [HF.out.len, hml]
        have hy0 : lenR (nm m) a1 = 0 := HNO.out
        have HYES : Hid (∀ W g cc, Src W (some ⟨g, 0, none⟩) len0 cc (ci (nm m)) → Calls Try.prog 7 #[.slice (some ⟨g, 0, none⟩) len0 cc, .int .i64 a1] W fun e w' => ∃ R, e = .returned (.tuple #[.slice (some ⟨R, 0, none⟩) len0 len0, .int .i64 0]) ∧ Vec w' R (lenV (nm m) a1) ∧ W.heap.size ≤ R ∧ Below W.heap.size W w') := fun W g cc h => lengths_yes W (some ⟨g, 0, none⟩) len0 cc (nm m) a1 h hy0
        generalize lenV (nm m) a1 = V at *
        clear hy0 hml
        go_wp2_with fail
        refine KL.mono ?_
        rintro e W1 ⟨g, cc, rfl, hs1, hcc, hb1⟩
        have HS1 : Hid (Src W1 (some ⟨g, 0, none⟩) (len0 + 1) cc (ci (nm m ++ [77]))) := hs1
        have K1 := HYES.out W1 g cc (lent_src hs1 HL.out)
        clear KL hs1
        go_wp2_with fail
        refine K1.mono ?_
        rintro e W2 ⟨R1, rfl, hv1, hR1, hb2⟩
        have HV1 : Hid (Vec W2 R1 V) := hv1
        have K2 := HYES.out W2 g cc (lent_src (HS1.out.later hb2) HL.out)
        clear K1 hv1
        go_wp2_with fail
        refine K2.mono ?_
        rintro e W3 ⟨R2, rfl, hv2, hR2, hb3⟩
        have HV2 : Hid (Vec W3 R2 V) := hv2
        have HV13 : Hid (Vec W3 R1 V) := HV1.out.later hb3 HV1.out.lt
        have b03 := (hb1.trans (hb2.mono hb1.size)).trans (hb3.mono (hb1.trans (hb2.mono hb1.size)).size)
        have K3 := kept_any W3 g cc len0 cap0 a0 (nm m) ((HS1.out.later hb2).later hb3) hcc (HS.out.later b03) (by omega)
        clear K2 hv2 HV1
        go_wp2_with fail
        refine K3.mono ?_
        rintro e W4 ⟨rfl, hb4⟩
        have b04 := b03.trans (hb4.mono b03.size)
        have HV14 : Hid (Vec W4 R1 V) := HV13.out.later hb4 HV13.out.lt
        have K4 := ints_any W4 (some ⟨R1, 0, none⟩) (some ⟨R2, 0, none⟩) len0 len0 len0 len0 (nm V) (nm V) (by have h := HV14.out.src len0; rw [HVL.out] at h; exact h) (by have h := (HV2.out.later hb4 HV2.out.lt).src len0; rw [HVL.out] at h; exact h) (by omega)
        rw [show decide (nm V = nm V) = true from by simp] at K4
        clear K3 HV2 HV13
        go_wp2_with fail
        refine K4.mono ?_
        rintro e W5 ⟨rfl, hb5⟩
        have b05 := b04.trans (hb5.mono b04.size)
        have HV5 : Hid (Vec W5 R1 V) := HV14.out.later hb5 HV14.out.lt
        have HB05 : Hid (Below w.heap.size w W5) := b05
        clear K4 HV14 hb1 hb2 hb3 hb4 hb5 b03 b04 b05 hR1 hR2 HS1 HYES
        go_wp2_with fail
        refine (num_any 0 W5).mono ?_
        rintro e wx ⟨rfl, hwx⟩
        obtain rfl := hwx.symm
        go_wp2_with fail
        go_loopw [13] (fun iv wr => ∃ i : Nat, i ≤ len0 ∧ iv = .int .i64 (i : Int) ∧ Below W5.heap.size W5 wr) (fun iv _ => len0 - (intOf iv).toNat)
        case atStart => exact ⟨0, Nat.zero_le _, rfl, Below.refl _ _⟩
        case round =>
          obtain ⟨j, hj, rfl, bel⟩ := hrel
          have HVw : Hid (Vec wr R1 V) := HV5.out.later bel HV5.out.lt
          have HBw : Hid (Below w.heap.size w wr) := HB05.out.trans (bel.mono HB05.out.size)
          by_cases hjl : j < len0
          · have hjl' : (j : Int) < (len0 : Int) := by omega
            have c1 := HVw.out.cell (j := j) (by rw [HVL.out]; exact hjl)
            obtain ⟨g9, o9, rfl, c2⟩ := src_atn (HS.out.later HBw.out) hjl
            obtain ⟨p1, p2, p3⟩ := HF.out.at_ j
            rw [← HNS.out] at p3
            obtain ⟨y, hy⟩ : ∃ y, V.getD j 0 = y := ⟨_, rfl⟩
            obtain ⟨x, hx⟩ : ∃ x, m.getD j 0 = x := ⟨_, rfl⟩
            rw [hy] at c1 p1 p2 p3
            rw [hx] at c2 p2
            have HNX : Hid (∀ q, Below W5.heap.size W5 (wr.drewN q)) := fun q => bel.trans (by exact ⟨rfl, rfl, rfl, Nat.le_refl _, fun _ _ => rfl⟩)
            have t1 : decide ((y : Int) < 0) = false := decide_eq_false (by omega)
            have t2 : decide (a1 < (y : Int)) = false := decide_eq_false (by have := HLIM.out; omega)
            clear hy hx HVw HBw
            by_cases hx0 : x = 0
            · have hy0 : y = 0 := p2.2 hx0
              subst hx0 hy0
              have t2' : decide (a1 < 0) = false := decide_eq_false (by omega)
              clear p1 p2 p3 t1 t2
              by_cases hn1 : n = 1
              · subst hn1
                go_wp2_with fail
                go_big_quiet (fail)
                go_wp2_with fail
                go_roundw
                case rel => exact ⟨j + 1, by omega, by go_num, HNX.out _⟩
                case measure => simp [intOf]; omega
              · have tn : decide ((n : Int) = 1) = false := decide_eq_false (by omega)
                have tn2 : decide (n = 1) = false := decide_eq_false hn1
                have tn3 : ((n : Int) == 1) = false := by simp; omega
                go_wp2_with fail
                go_big_quiet (fail)
                go_wp2_with fail
                go_roundw
                case rel => exact ⟨j + 1, by omega, by go_num, HNX.out _⟩
                case measure => simp [intOf]; omega
            · have hy0 : ¬ y = 0 := fun h => hx0 (p2.1 h)
              have tx : ((x : Int) == 0) = false := by simp; omega
              have ty : ((y : Int) == 0) = false := by simp; omega
              have tx2 : (x == 0) = false := by simp; omega
              have ty2 : (y == 0) = false := by simp; omega
              by_cases hn1 : n = 1
              · have q3 := p3 hn1
                have t3 : decide ((1 : Int) < (y : Int)) = false := decide_eq_false (by omega)
                have t4 : decide (1 < y) = false := decide_eq_false (by omega)
                clear p1 p2 p3
                subst hn1
                go_wp2_with fail
                go_big_quiet (fail)
                go_wp2_with fail
                go_roundw
                case rel => exact ⟨j + 1, by omega, by go_num, HNX.out _⟩
                case measure => simp [intOf]; omega
              · have tn : decide ((n : Int) = 1) = false := decide_eq_false (by omega)
                have tn2 : decide (n = 1) = false := decide_eq_false hn1
                have tn3 : ((n : Int) == 1) = false := by simp; omega
                clear p1 p2 p3
                go_wp2_with fail
                go_big_quiet (fail)
                go_wp2_with fail
                go_roundw
                case rel => exact ⟨j + 1, by omega, by go_num, HNX.out _⟩
                case measure => simp [intOf]; omega
          · have hge2 : (len0 : Int) ≤ (j : Int) := by omega
            have KW := rweigh_any wr (some ⟨R1, 0, none⟩) len0 len0 (nm V) (by have h := HVw.out.src len0; rw [HVL.out] at h; exact h) (by omega)
            by_cases hn2 : n < 2
            · have hn2' : (n : Int) < 2 := by omega
              generalize weiV (nm V) = wv at *
              generalize refu 15 (nm V) = rv at *
              go_wp2_with fail
              refine KW.mono ?_
              rintro e wx ⟨rfl, hwx⟩
              obtain rfl := hwx.symm
              go_wp2_with fail
              refine (works_any wr).mono ?_
              rintro e W9 ⟨rfl, hb9⟩
              go_wp2_with fail
              exact QT.out _ (HBw.out.trans (hb9.mono HBw.out.size))
            · have hn2' : (2 : Int) ≤ (n : Int) := by omega
              have h2s : 2 ≤ (syms m).length := by rw [← HNS.out]; omega
              rw [HF.out.wei h2s, HF.out.no] at KW
              have KC := rcost_any wr a0 (some ⟨R1, 0, none⟩) len0 len0 cap0 len0 (nm m) (nm V) (HS.out.later HBw.out) (by have h := HVw.out.src len0; rw [HVL.out] at h; exact h) (by omega) (by omega) HB64.out (fun j => by rw [nm_getD]; have := (HF.out.at_ j).1; have := HLIM.out; omega)
              rw [HF.out.cost h2s] at KC
              have KLS : Hid (∀ W, Below wr.heap.size wr W → Calls Try.prog 13 #[.slice a0 len0 cap0, .int .i64 a1] W fun e w' => e = .returned (.int .i64 ((sumT (stp (sgl m (syms m)) (L - 1)) (2 * (syms m).length - 2) : Nat) : Int)) ∧ Below W.heap.size W w') := fun W hW => by
                have h := least_any W a0 len0 cap0 m L ((HS.out.later HBw.out).later hW) (by omega) HF.out.small (by have := HLIM.out; omega) (by have := HLIM.out; omega) h2s (by rw [← HNS.out]; omega) HF.out.few
                rw [← HLIM.out.1] at h
                exact h
              generalize sumT (stp (sgl m (syms m)) (L - 1)) (2 * (syms m).length - 2) = OP at *
              go_wp2_with fail
              refine KW.mono ?_
              rintro e wx ⟨rfl, hwx⟩
              obtain rfl := hwx.symm
              go_wp2_with fail
              refine KC.mono ?_
              rintro e W6 ⟨rfl, hb6⟩
              go_wp2_with fail
              refine (KLS.out W6 hb6).mono ?_
              rintro e W7 ⟨rfl, hb7⟩
              have b67 := hb6.trans (hb7.mono hb6.size)
              go_wp2_with fail
              refine (works_any W7).mono ?_
              rintro e W8 ⟨rfl, hb8⟩
              have b68 := b67.trans (hb8.mono b67.size)
              go_wp2_with fail
              exact QT.out _ (HBw.out.trans (b68.mono HBw.out.size))
      · have hno' : ¬ lenR l a1 = 0 := by rw [HNO.out]; exact h0
        have h0' : (no == 0) = false := by simpa using h0
        have HNOC : Hid (∀ W g cc, Src W (some ⟨g, 0, none⟩) len0 cc (ci l) → Calls Try.prog 7 #[.slice (some ⟨g, 0, none⟩) len0 cc, .int .i64 a1] W fun e w' => e = .returned (.tuple #[.slice none 0 0, .int .i64 no]) ∧ Below W.heap.size W w') := fun W g cc h => by
          have h9 := lengths_no W (some ⟨g, 0, none⟩) len0 cc l a1 h (by omega) hno'
          rw [HNO.out] at h9
          exact h9
        clear hno' HNO
        go_wp2_with fail
        refine KL.mono ?_
        rintro e W1 ⟨g, cc, rfl, hs1, hcc, hb1⟩
        have HS1 : Hid (Src W1 (some ⟨g, 0, none⟩) (len0 + 1) cc (ci (l ++ [77]))) := hs1
        have K1 := HNOC.out W1 g cc (lent_src hs1 HL.out)
        clear KL hs1
        go_wp2_with fail
        refine K1.mono ?_
        rintro e W2 ⟨rfl, hb2⟩
        have K2 := HNOC.out W2 g cc (lent_src (HS1.out.later hb2) HL.out)
        clear K1
        go_wp2_with fail
        refine K2.mono ?_
        rintro e W3 ⟨rfl, hb3⟩
        have b02 := hb1.trans (hb2.mono hb1.size)
        have b03 := b02.trans (hb3.mono b02.size)
        have K3 := kept_any W3 g cc len0 cap0 a0 l ((HS1.out.later hb2).later hb3) hcc (HS.out.later b03) (by omega)
        clear K2
        go_wp2_with fail
        refine K3.mono ?_
        rintro e W4 ⟨rfl, hb4⟩
        have b04 := b03.trans (hb4.mono b03.size)
        have K4 := ints_any W4 none none 0 0 0 0 [] [] ⟨rfl, .inl ⟨rfl, rfl, rfl⟩⟩ ⟨rfl, .inl ⟨rfl, rfl, rfl⟩⟩ (by omega)
        rw [show decide (([] : List Int) = []) = true from by simp] at K4
        clear K3
        go_wp2_with fail
        refine K4.mono ?_
        rintro e W5 ⟨rfl, hb5⟩
        have b05 := b04.trans (hb5.mono b04.size)
        clear K4
        go_wp2_with fail
        refine (num_any no W5).mono ?_
        rintro e wx ⟨rfl, hwx⟩
        obtain rfl := hwx.symm
        go_wp2_with fail
        refine (works_any W5).mono ?_
        rintro e W6 ⟨rfl, hb6⟩
        go_wp2_with fail
        exact QT.out _ (b05.trans (hb6.mono b05.size))

set_option maxRecDepth 100000 in
theorem lifted (os : Os) (started : os.Started) (H : Type) (enc : TypeId × Value → H) :
    ReturnsInHanded {} Try.checked os 3 .any (Rows.huffmanLengthsSpec.pre6 enc Try.prog Try.f3 Rows.huffmanLengthsRow.domain false) (Rows.huffmanLengthsSpec.post enc Try.prog Try.f3 false true false false) := by
  refine returnsInHanded_of_change_sized (C := Try.checked) own started (by kernel_rfl) Try.func3
    (ChangeSpec.witness6 (enc := enc) (C := Try.checked) false ⟨#[], #[.slice none 0 0, .int .i64 0], []⟩ 8 (by kernel_rfl) (by kernel_rfl) (by kernel_rfl) (by kernel_rfl)) ?_
  intro W base args ds gs before hval0 hW hcnd hsz0 _
  have hsz : (DataW.weightsEach Try.prog (Try.f3.params.toList ++ Rows.huffmanLengthsSpec.plain.varTypes Try.prog) (ds ++ gs)).all (· ≤ reachBytes) = true := hsz0
  clear hsz0
  have hval : ∀ (j : Nat) t v, Try.f3.params[j]? = some t → args[j]? = some v → Value.okWide Try.prog W .any base t v := hval0
  have hW' := hW
  obtain ⟨p, q, hA0, hV, rfl, hfz, hnd⟩ := hW
  have hA : DataW.TrodAll enc Try.prog W 0 (fun _ => true) true Try.f3.params.toList args.toList ds p := hA0
  rw [Try.params3] at hA hval hsz
  obtain ⟨v0, vs0, d0, ds0, p0, q0, hargs, rfl, rfl, h0, r0⟩ := trodAll_cons hA
  obtain ⟨v1, vs1, d1, ds1, p1, q1, rfl, rfl, rfl, h1, r1⟩ := trodAll_cons r0
  obtain ⟨rfl, rfl, rfl⟩ := trodAll_nil r1
  obtain rfl : args = #[v0, v1] := by cases args; simp_all
  obtain ⟨rfl, rfl⟩ := trodVars_none hV
  obtain ⟨a0, len0, cap0, rfl⟩ := okWide_slice Try.underlying22 (hval 0 22 v0 rfl rfl)
  have k0 := h0
  have lt0 : ∀ x ∈ p0, x.block < W.heap.size := by obtain ⟨m, hm⟩ := k0; exact DataW.trod_lt m _ _ _ hm
  obtain ⟨z0, w0, s0⟩ := row_open hsz 0 rfl rfl h0
  obtain ⟨a1, rfl, rfl, rfl, w1⟩ := open_int Try.underlying3 (hval 1 3 v1 rfl rfl) h1
  clear hA0 hval0
  refine (walk a0 len0 cap0 z0 a1 W w0 s0 w1).mono fun e W' ⟨he, bel⟩ => ?_
  subst he
  exact ⟨_, rfl, _, _, _, [], _, [], hW', trodAll_mk1 (shut_bool Try.underlying4 _), (trodAll_cons_mk (Below.trod laidOut (by kernel_rfl) (of_decide_eq_true (by kernel_rfl)) k0 bel lt0) (trodAll_cons_mk (shut_int Try.underlying3 w1) trodAll_mk0)), rfl, bel.frame _, fun h => by cases h⟩

theorem over : Rows.huffmanLengthsRow.holds Try.pinned (OpenSpec.ofChange Rows.huffmanLengthsSpec) :=
  OpenClaim.holds_of_wide 3 Try.f3 rfl rfl rfl rfl rfl rfl rfl ⟨rfl, rfl, rfl, rfl, rfl⟩ rfl rfl rfl rfl rfl (by kernel_rfl) Try.func3 (by kernel_rfl)
    (of_decide_eq_true (by kernel_rfl)) (by unfold Func.isWrapper; first | (rw [if_pos (by decide +kernel)]; kernel_rfl) | (rw [if_neg (by decide +kernel)]; exact ⟨rfl, rfl⟩))
    (fun os started H enc _ => lifted os started H enc)

theorem proved : Rows.HuffmanLengthsSaid := over
#print axioms proved
end Go.Proofs.Ytfcjnpbnejaolaa.huffmanLengths
namespace Go.Proofs.Ytfcjnpbnejaolaa
theorem huffmanLengths_holds : Rows.HuffmanLengthsSaid := huffmanLengths.proved
end Go.Proofs.Ytfcjnpbnejaolaa
