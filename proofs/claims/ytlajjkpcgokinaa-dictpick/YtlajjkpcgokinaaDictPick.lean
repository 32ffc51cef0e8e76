/-
For any data and any whole numbers (at most 200 each; else the law says nothing): Pick answers the values that have the numbers, or no values and ErrRange, just if one is below 0 or not below how many data there are; what was handed in stays. No condition.
-/
import Derived.Test.YtlajjkpcgokinaaRows
import Derived.Test.YtlajjkpcgokinaaFrame
import Derived.Test.YtlajjkpcgokinaaDkP
import Derived.Test.YtlajjkpcgokinaaDat
import Derived.Lib.QuietBelow
import Derived.BigQuiet
import Derived.WalkKit
import Derived.ProofKit
import Derived.OpenShut
import Derived.ShutString
import Derived.ChangeOld
import Derived.ChangeMaps5
import Derived.Below
namespace Go.Proofs.Ytlajjkpcgokinaa.dictPick
open Go.ChangeShapes Go.WideShapes Go.ChangeAt Go.RowKit Go.Deep Go.Sort
set_option linter.unusedVariables false
set_option linter.unusedSimpArgs false

set_option maxRecDepth 100000 in
set_option maxHeartbeats 4000000 in
theorem walk (a0 : Option Addr) (len0 cap0 : Nat) (l0 : List Dat) (a1 : Option Addr) (len1 cap1 : Nat) (l1 : List Int) (w : World) (w0 : Data w a0 len0 cap0 l0) (w1 : IntRow w a1 len1 cap1 l1) :
    Calls Try.prog 6 #[.slice a0 len0 cap0, .slice a1 len1 cap1] w fun e w' => e = .returned (.bool true) ∧ Below w.heap.size w w' := by
  have hl0 := w0.1
  have hsrc := w1.src
  have hll := w1.ln
  by_cases h200 : len0 ≤ 200 ∧ len1 ≤ 200
  case neg =>
    have q0 := w0.2.2.1
    have hroom := w1.room
    by_cases hp : len0 ≤ 200
    · have hp' : (len0 : Int) ≤ 200 := by omega
      have hq2 : (200 : Int) < (len1 : Int) := by omega
      clear w0 w1 hl0 h200 hsrc hll
      go_enter Try.func6, Try.ntmps6
      go_wp2_with fail
      go_ret
      exact ⟨rfl, Below.refl _ _⟩
    · have hq2 : (200 : Int) < (len0 : Int) := by omega
      clear w0 w1 hl0 h200 hsrc hll
      go_enter Try.func6, Try.ntmps6
      go_wp2_with fail
      go_ret
      exact ⟨rfl, Below.refl _ _⟩
  obtain ⟨hp, hq⟩ := h200
  have hp' : (len0 : Int) ≤ 200 := by omega
  have hq' : (len1 : Int) ≤ 200 := by omega
  have HL : Hid (l1.length = len1) := hll
  clear hll hl0
  by_cases ha : allIn (len0 : Int) l1 = true
  · have PY := pick_yes a0 len0 cap0 l0 a1 len1 cap1 l1 w w0 (by omega) hsrc ha
    have HIN : Hid (allIn (len0 : Int) l1 = true) := ha
    clear ha
    go_enter Try.func6, Try.ntmps6
    go_wp2_with fail
    refine PY.mono ?_
    rintro e w2 ⟨R, rfl, hv2, hR2, hb2⟩
    go_wp2_with fail
    go_loopw [7] (fun c wr => ∃ i : Nat, c = .int .i64 (i : Int) ∧ i ≤ len1 ∧ Below w2.heap.size w2 wr) (fun c _ => len1 - (intOf c).toNat)
    case atStart => exact ⟨0, rfl, Nat.zero_le _, Below.refl _ _⟩
    case round =>
      obtain ⟨i, rfl, hi, hb⟩ := hrel
      have hbw := hb2.trans (hb.mono hb2.size)
      by_cases hlt : i < len1
      · have hlt' : (i : Int) < (len1 : Int) := by omega
        obtain ⟨g, off, rfl, hcz⟩ := src_atI (Src.later hsrc hbw) hlt
        obtain ⟨hz1, hz2⟩ := allIn_at HIN.out (i := i) (by rw [HL.out]; exact hlt)
        generalize l1.getD i 0 = z at *
        have hz3 : ¬ z < 0 := by omega
        have hz4 : ¬ (len0 : Int) ≤ z := by omega
        clear PY w0
        go_wp2_with fail
        go_roundw
        case rel => exact ⟨i + 1, by go_num, by omega, hb⟩
        case measure => simp [intOf]; omega
      · have hge : (len1 : Int) ≤ (i : Int) := by omega
        have hvr : Hid (DVec wr R (pkD l0 l1)) := (hb.block R hv2.lt).trans hv2
        clear PY hv2 hi
        go_wp2_with fail
        go_loopw [8] (fun c wq => ∃ k : Nat, c = .int .i64 (k : Int) ∧ k ≤ len1 ∧ Below wr.heap.size wr wq) (fun c _ => len1 - (intOf c).toNat)
        case atStart => exact ⟨0, rfl, Nat.zero_le _, Below.refl _ _⟩
        case round =>
          obtain ⟨k, rfl, hk, hbq⟩ := hrel
          have hbx := hbw.trans (hbq.mono hbw.size)
          by_cases hlk : k < len1
          · have hlk' : (k : Int) < (len1 : Int) := by omega
            obtain ⟨g, off, rfl, hcz⟩ := src_atI (Src.later hsrc hbx) hlk
            obtain ⟨hz1, hz2⟩ := allIn_at HIN.out (i := k) (by rw [HL.out]; exact hlk)
            have HPK : Hid ((pkD l0 l1)[k]? = some (l0.getD (l1.getD k 0).toNat zd)) := by
              show _ = _
              rw [pkD, List.getElem?_map, List.getElem?_eq_getElem (by rw [HL.out]; exact hlk)]
              simp [List.getD, List.getElem?_eq_getElem (show k < l1.length by rw [HL.out]; exact hlk)]
            generalize l1.getD k 0 = z at *
            obtain ⟨q, rfl⟩ := Int.eq_ofNat_of_zero_le hz1
            have hq9 : q < len0 := by omega
            obtain ⟨d, gd, o, hd, wd, rfl, hg, c0, c1, c2⟩ := data_at (w0.later hbx) hq9
            have hpk := HPK.out
            rw [Int.toNat_natCast, getD_of hd] at hpk
            have hrow : DRow _ R 0 _ := DVec.row ((hbq.block R (DVec.lt hvr.out)).trans hvr.out)
            obtain ⟨d0, d1, d2⟩ := hrow k d hpk
            rw [Nat.zero_add] at d0 d1 d2
            have r0 := cell_regrown c0; have r1 := cell_regrown c1; have r2 := cell_regrown c2; have s0 := cell_regrown d0; have s1 := cell_regrown d1; have s2 := cell_regrown d2
            have rz := cell_regrown hcz
            have RE := fun W => run_neD d d W
            rw [sameD_refl] at RE
            clear HPK hd wd hpk hrow hz1
            go_wp2_with fail
            refine wp_region_quiet_below (by kernel_rfl) (by kernel_rfl) ?_
            repeat (go_big_quiet_step (fail))
            refine wpQuiet_nil ?_
            intro _ hw'
            obtain ⟨⟨dq, osq⟩, hw''⟩ := hw'
            subst hw''
            have hqq := below_regrown wr dq osq
            generalize grow (redrawn wr dq) osq = wz at *
            clear r0 r1 r2 s0 s1 s2 c0 c1 c2 d0 d1 d2 rz RE
            go_wp2_with fail
            go_roundw
            case rel => exact ⟨k + 1, by go_num, by omega, hbq.trans (hqq.mono hbq.size)⟩
            case measure => simp [intOf]; omega
          · have hge : (len1 : Int) ≤ (k : Int) := by omega
            go_wp2_with fail
            go_ret
            exact ⟨rfl, hbx⟩
  · have ha' : allIn (len0 : Int) l1 = false := by simpa using ha
    have PN := pick_no a0 len0 cap0 l0 a1 len1 cap1 l1 w w0 (by omega) hsrc ha'
    have HN : Hid (¬ allIn (len0 : Int) l1 = true) := ha
    clear ha ha'
    go_enter Try.func6, Try.ntmps6
    go_wp2_with fail
    refine PN.mono ?_
    rintro e w2 ⟨rfl, hb2⟩
    go_wp2_with fail
    go_loopw [7] (fun c wr => ∃ i : Nat, c = .int .i64 (i : Int) ∧ i ≤ len1 ∧ Hid (allIn (len0 : Int) (l1.take i) = true) ∧ Below w2.heap.size w2 wr) (fun c _ => len1 - (intOf c).toNat)
    case atStart => exact ⟨0, rfl, Nat.zero_le _, rfl, Below.refl _ _⟩
    case round =>
      obtain ⟨i, rfl, hi, H, hb⟩ := hrel
      have hbw := hb2.trans (hb.mono hb2.size)
      by_cases hlt : i < len1
      · have hlt' : (i : Int) < (len1 : Int) := by omega
        obtain ⟨g, off, rfl, hcz⟩ := src_atI (Src.later hsrc hbw) hlt
        have HY : Hid (0 ≤ l1.getD i 0 ∧ l1.getD i 0 < (len0 : Int) → allIn (len0 : Int) (l1.take (i + 1)) = true) := allIn_take (by rw [HL.out]; exact hlt) H.out
        generalize l1.getD i 0 = z at *
        clear PN w0
        by_cases h0 : z < 0
        · go_wp2_with fail
          go_ret
          exact ⟨rfl, hbw⟩
        · by_cases h1 : (len0 : Int) ≤ z
          · go_wp2_with fail
            go_ret
            exact ⟨rfl, hbw⟩
          · have HE : Hid (allIn (len0 : Int) (l1.take (i + 1)) = true) := HY.out (by omega)
            go_wp2_with fail
            go_roundw
            case rel => exact ⟨i + 1, by go_num, by omega, HE.out, hb⟩
            case measure => simp [intOf]; omega
      · have hge : (len1 : Int) ≤ (i : Int) := by omega
        exfalso
        have h := H.out
        rw [List.take_of_length_le (by rw [HL.out]; omega)] at h
        exact HN.out h

set_option maxRecDepth 100000 in
theorem lifted (os : Os) (started : os.Started) (H : Type) (enc : TypeId × Value → H) :
    ReturnsInHanded {} Try.checked os 6 .any (Rows.dictPickSpec.pre6 enc Try.prog Try.f6 Rows.dictPickRow.domain false) (Rows.dictPickSpec.post enc Try.prog Try.f6 false true false false) := by
  refine returnsInHanded_of_change_sized (C := Try.checked) own started (by kernel_rfl) Try.func6
    (ChangeSpec.witness6 (enc := enc) (C := Try.checked) false ⟨#[], #[.slice none 0 0, .slice none 0 0], []⟩ 8 (by kernel_rfl) (by kernel_rfl) (by kernel_rfl) (by kernel_rfl)) ?_
  intro W base args ds gs before hval0 hW hcnd hsz0 _
  have hsz : (DataW.weightsEach Try.prog (Try.f6.params.toList ++ Rows.dictPickSpec.plain.varTypes Try.prog) (ds ++ gs)).all (· ≤ reachBytes) = true := hsz0
  clear hsz0
  have hval : ∀ (j : Nat) t v, Try.f6.params[j]? = some t → args[j]? = some v → Value.okWide Try.prog W .any base t v := hval0
  have hW' := hW
  obtain ⟨p, q, hA0, hV, rfl, hfz, hnd⟩ := hW
  have hA : DataW.TrodAll enc Try.prog W 0 (fun _ => true) true Try.f6.params.toList args.toList ds p := hA0
  rw [Try.params6] at hA hval hsz
  obtain ⟨v0, vs0, d0, ds0, p0, q0, hargs, rfl, rfl, h0, r0⟩ := trodAll_cons hA
  obtain ⟨v1, vs1, d1, ds1, p1, q1, rfl, rfl, rfl, h1, r1⟩ := trodAll_cons r0
  obtain ⟨rfl, rfl, rfl⟩ := trodAll_nil r1
  obtain rfl : args = #[v0, v1] := by cases args; simp_all
  obtain ⟨rfl, rfl⟩ := trodVars_none hV
  have e0 := h0
  have lt0 : ∀ x ∈ p0, x.block < W.heap.size := by obtain ⟨m, hm⟩ := e0; exact DataW.trod_lt m _ _ _ hm
  obtain ⟨a0, len0, cap0, l0, rfl, w0⟩ := arg_data hsz 0 rfl rfl (hval 0 22 v0 rfl rfl) h0
  have e1 := h1
  have lt1 : ∀ x ∈ p1, x.block < W.heap.size := by obtain ⟨m, hm⟩ := e1; exact DataW.trod_lt m _ _ _ hm
  obtain ⟨a1, len1, cap1, l1, rfl, w1⟩ := arg_ints (hval 1 23 v1 rfl rfl) h1
  clear hA0 hval0
  refine (walk a0 len0 cap0 l0 a1 len1 cap1 l1 W w0 w1).mono fun e W' ⟨he, bel⟩ => ?_
  subst he
  exact ⟨_, rfl, _, _, _, [], _, [], hW', trodAll_mk1 (shut_bool Try.underlying4 _), (trodAll_cons_mk (Below.trod laidOut (by kernel_rfl) (of_decide_eq_true (by kernel_rfl)) e0 bel lt0) (trodAll_cons_mk (Below.trod laidOut (by kernel_rfl) (of_decide_eq_true (by kernel_rfl)) e1 bel lt1) trodAll_mk0)), rfl, bel.frame _, fun h => by cases h⟩

theorem over : Rows.dictPickRow.holds Try.pinned (OpenSpec.ofChange Rows.dictPickSpec) :=
  OpenClaim.holds_of_wide 6 Try.f6 rfl rfl rfl rfl rfl rfl rfl ⟨rfl, rfl, rfl, rfl, rfl⟩ rfl rfl rfl rfl rfl (by kernel_rfl) Try.func6 (by kernel_rfl)
    (of_decide_eq_true (by kernel_rfl)) (by unfold Func.isWrapper; first | (rw [if_pos (by decide +kernel)]; kernel_rfl) | (rw [if_neg (by decide +kernel)]; exact ⟨rfl, rfl⟩))
    (fun os started H enc _ => lifted os started H enc)

theorem proved : Rows.DictPickSaid := over
#print axioms proved
end Go.Proofs.Ytlajjkpcgokinaa.dictPick
namespace Go.Proofs.Ytlajjkpcgokinaa
theorem dictPick_holds : Rows.DictPickSaid := dictPick.proved
end Go.Proofs.Ytlajjkpcgokinaa
