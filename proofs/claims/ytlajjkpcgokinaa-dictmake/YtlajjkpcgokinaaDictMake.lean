/-
For any data (at most 200; else the law says nothing): Make answers each datum once, in the order in which they come first, and for each datum its place among these; Pick by these places answers the data; what was handed in stays. No condition.
-/
import Derived.Test.YtlajjkpcgokinaaRows
import Derived.Test.YtlajjkpcgokinaaFrame
import Derived.Test.YtlajjkpcgokinaaDkLw
import Derived.Test.YtlajjkpcgokinaaDat
import Derived.Lib.QuietBelow
import Derived.BigQuiet
import Derived.WalkKit
import Derived.ProofKit
import Derived.OpenShut
import Derived.ShutString
import Derived.ChangeOld
import Derived.ChangeMaps5
import Derived.Below
namespace Go.Proofs.Ytlajjkpcgokinaa.dictMake
open Go.ChangeShapes Go.WideShapes Go.ChangeAt Go.RowKit Go.Deep Go.Sort
set_option linter.unusedVariables false
set_option linter.unusedSimpArgs false

set_option maxRecDepth 100000 in
set_option maxHeartbeats 8000000 in
theorem walk (a0 : Option Addr) (len0 cap0 : Nat) (l0 : List Dat) (w : World) (w0 : Data w a0 len0 cap0 l0) :
    Calls Try.prog 3 #[.slice a0 len0 cap0] w fun e w' => e = .returned (.bool true) ∧ Below w.heap.size w w' := by
  have hl0 := w0.1
  by_cases h200 : 200 < len0
  · have h200' : (200 : Int) < (len0 : Int) := by omega
    have q0 := w0.2.2.1
    clear w0 hl0
    go_enter Try.func3, Try.ntmps3
    go_wp2_with fail
    go_ret
    exact ⟨rfl, Below.refl _ _⟩
  have hp' : (len0 : Int) ≤ 200 := by omega
  obtain ⟨i0, hi, hz0, hz1, hz2⟩ := info_parts infoD
  have MK := make_any a0 len0 cap0 l0 w w0 (by omega)
  have HL : Hid (l0.length = len0) := hl0
  have hwfD : Hid (∀ d ∈ dictL l0, d.wf) := fun d h => w0.2.2.2.1 d (dictL_sub h)
  have hDL : (dictL l0).length ≤ len0 := by have := dictL_len l0; omega
  clear hl0
  go_enter Try.func3, Try.ntmps3
  go_wp2_with fail
  refine MK.mono ?_
  rintro e w2 ⟨v, R, rfl, hown, hN, hR, hb2⟩
  obtain ⟨va, vc, rfl⟩ := own_sl hown
  clear MK
  go_wp2_with fail
  go_loopw [5, 6] (fun wt c wr => ∃ i : Nat, c = .int .i64 (i : Int) ∧ i ≤ len0 ∧ Hid (wr.ownsRow w2.heap.size 28 3 wt (dictL (l0.take i)).length (dcs (dictL (l0.take i)))) ∧ Below w2.heap.size w2 wr) (fun _ c _ => len0 - (intOf c).toNat)
  case atStart => exact ⟨0, rfl, Nat.zero_le _, World.ownsRow_nil _ _ _ _, Below.refl _ _⟩
  case round =>
    obtain ⟨i, rfl, hiL, HO, hb⟩ := hrel
    obtain ⟨wa, wc, rfl⟩ := own_sl HO.out
    have hbw := hb2.trans (hb.mono hb2.size)
    by_cases hlt : i < len0
    · have hlt' : (i : Int) < (len0 : Int) := by omega
      obtain ⟨d, g, o, hd, wd, rfl, hg, c0, c1, c2⟩ := data_at (w0.later hbw) hlt
      have HSN : Hid (dictL (l0.take (i + 1)) = addD (dictL (l0.take i)) d) := dictL_snoc hd
      have hwl : (dictL (l0.take i)).length ≤ 200 := by have := dictL_len (l0.take i); rw [List.length_take] at this; omega
      obtain ⟨wa', wc', hwe, HWD⟩ := own_data HO.out (fun e he => w0.2.2.2.1 e (List.mem_of_mem_take (dictL_sub he))) (by omega)
      cases hwe
      obtain ⟨W, hW⟩ : ∃ W, W = dictL (l0.take i) := ⟨_, rfl⟩
      rw [← hW] at HSN hwl HWD HO ⊢
      obtain ⟨wn, hwn⟩ : ∃ wn, wn = W.length := ⟨_, rfl⟩
      have HWN : Hid (wn = W.length) := hwn
      rw [← hwn] at HWD hwl HO ⊢
      have hwl' : (wn : Int) ≤ 200 := by omega
      have HDC : Hid (wr.cell? ⟨g, o + i * 3, none⟩ = some (.int .i64 d.k) ∧ wr.cell? ⟨g, o + i * 3 + 1, none⟩ = some (.int .i64 d.n) ∧ wr.cell? ⟨g, o + i * 3 + 2, none⟩ = some (.string d.s)) := ⟨c0, c1, c2⟩
      have hgl : g < wr.heap.size := hg
      clear hd hW c0 c1 c2 hwn
      go_wp2_with fail
      go_loopw [7, 8] (fun t k wq => ∃ n : Nat, k = .int .i64 (n : Int) ∧ n ≤ wn ∧ t = .bool ((W.take n).any (sameD d)) ∧ Below wr.heap.size wr wq) (fun _ k _ => wn - (intOf k).toNat)
      case atStart => exact ⟨0, rfl, Nat.zero_le _, rfl, Below.refl _ _⟩
      case round =>
        obtain ⟨n, rfl, hn, rfl, hbq⟩ := hrel
        have e0 := cell_later hbq HDC.out.1
        have e1 := cell_later hbq HDC.out.2.1
        have e2 := cell_later hbq HDC.out.2.2
        by_cases hln : n < wn
        · have hln' : (n : Int) < (wn : Int) := by omega
          obtain ⟨x, gx, ox, hx, wx, hwae, hgx, d0, d1, d2⟩ := data_at (HWD.later hbq) hln
          have HAN : Hid ((W.take (n + 1)).any (sameD d) = ((W.take n).any (sameD d) || sameD x d)) := any_take hx
          subst hwae
          have r0 := cell_regrown d0; have r1 := cell_regrown d1; have r2 := cell_regrown d2; have s0 := cell_regrown e0; have s1 := cell_regrown e1; have s2 := cell_regrown e2
          have RE := fun W => run_eqD x d W
          generalize (W.take n).any (sameD d) = t at *
          generalize sameD x d = u at *
          clear hx wx d0 d1 d2 e0 e1 e2
          cases t
          · go_wp2_with fail
            refine wp_region_quiet_below (by kernel_rfl) (by kernel_rfl) ?_
            repeat (go_big_quiet_step (fail))
            refine wpQuiet_nil ?_
            intro _ hw'
            obtain ⟨⟨dq, osq⟩, hw''⟩ := hw'
            subst hw''
            have hqq := below_regrown wr dq osq
            generalize grow (redrawn wr dq) osq = wz at *
            clear r0 r1 r2 s0 s1 s2 RE
            go_wp2_with fail
            exact ⟨⟨n + 1, by go_num, by omega, by rw [HAN.out]; simp, hbq.trans (hqq.mono hbq.size)⟩, by simp [intOf]; omega⟩
          · go_wp2_with fail
            refine wp_region_quiet_below (by kernel_rfl) (by kernel_rfl) ?_
            repeat (go_big_quiet_step (fail))
            refine wpQuiet_nil ?_
            intro _ hw'
            obtain ⟨⟨dq, osq⟩, hw''⟩ := hw'
            subst hw''
            have hqq := below_regrown wr dq osq
            generalize grow (redrawn wr dq) osq = wz at *
            clear r0 r1 r2 s0 s1 s2 RE
            go_wp2_with fail
            exact ⟨⟨n + 1, by go_num, by omega, by rw [HAN.out]; simp, hbq.trans (hqq.mono hbq.size)⟩, by simp [intOf]; omega⟩
        · have hge : (wn : Int) ≤ (n : Int) := by omega
          have HAE : Hid ((W.take n).any (sameD d) = W.any (sameD d)) := by show _ = _; rw [List.take_of_length_le (by have := HWN.out; omega)]
          rw [HAE.out]
          have HO3 : Hid (wr.ownsRow w2.heap.size 28 3 (.slice wa wn wc) wn (dcs W)) := own_below HO.out hbq
          have hb3 := hb.trans (hbq.mono hb.size)
          have HAD : Hid (addD W d = if W.any (sameD d) then W else W ++ [d]) := rfl
          generalize W.any (sameD d) = t at *
          have hsz3 := hb3.size
          clear hbq HDC HAE
          cases t
          · go_wp2_with (at_builtin; go_loud (refine wpList_append_own _ rfl (.tmp 46) (.tmp 51) 22 rfl w2.heap.size 28 i0 _ 3 32 Try.underlying22 hi hz0 hz1 hz2 rfl (by decide) (.slice wa wn wc) wn (dcs W) rfl (HO3.out.alloc _) ⟨wr.heap.size, 0, none⟩ 1 1 [.int .i64 d.k, .int .i64 d.n, .string d.s] rfl rfl (new_news _ _ _ _) (by intro u hu; simp at hu; rcases hu with rfl | rfl | rfl <;> rfl) (by unfold maxLen; omega) (by omega) (by simp; omega) ?_); intro v2 w4 hown2 hgrow2 _)
            refine ⟨⟨i + 1, by go_num, by omega, ?_, (hb3.alloc hsz3 _).grown hgrow2 (by simp; omega) (fun k e => (HO3.out.lt k e).1)⟩, by simp [intOf]; omega⟩
            show World.ownsRow _ _ _ _ _ _ _
            rw [HSN.out, HAD.out]
            simp only [Bool.false_eq_true, if_false]
            rw [dcs_append, List.length_append, ← HWN.out]
            exact hown2
          · go_wp2_with fail
            refine ⟨⟨i + 1, by go_num, by omega, ?_, hb3⟩, by simp [intOf]; omega⟩
            show World.ownsRow _ _ _ _ _ _ _
            rw [HSN.out, HAD.out]
            simp only [if_true]
            rw [← HWN.out]
            exact HO3.out
    · have hge : (len0 : Int) ≤ (i : Int) := by omega
      have HTK : Hid (l0.take i = l0) := List.take_of_length_le (by rw [HL.out]; omega)
      have hO := HO.out
      rw [HTK.out] at hO ⊢
      have hownr := own_below hown hb
      obtain ⟨_, _, ee, DA⟩ := own_data hownr hwfD.out (by omega)
      cases ee
      obtain ⟨_, _, ee, DB⟩ := own_data hO hwfD.out (by omega)
      cases ee
      have hNr : NVec wr R (numsL l0) := (hb.block R hN.lt).trans hN
      have HNL : Hid ((numsL l0).length = len0) := by show _ = _; rw [nums_len, HL.out]
      have HIN : Hid (allIn ((dictL l0).length : Int) ((numsL l0).map fun n : Nat => (n : Int)) = true) := nums_in l0
      have HPN : Hid (pkD (dictL l0) ((numsL l0).map fun n : Nat => (n : Int)) = l0) := pick_nums l0
      have HAT : Hid (∀ k d, l0[k]? = some d → (numsL l0)[k]? = some (ix (dictL l0) d) ∧ ix (dictL l0) d < (dictL l0).length ∧ (dictL l0)[ix (dictL l0) d]? = some d) := fun k d h => ⟨nums_at h, ix_lt (dictL_mem h), ix_at (dictL_mem h)⟩
      generalize hD : dictL l0 = D at *
      generalize numsL l0 = N at *
      obtain ⟨dn, hdn⟩ : ∃ dn, dn = D.length := ⟨_, rfl⟩
      have HDN : Hid (dn = D.length) := hdn
      rw [← hdn] at DA DB HIN hDL HAT ⊢
      have hdn' : (dn : Int) ≤ 200 := by omega
      have RS := fun X (h : Below wr.heap.size wr X) => rsameAll_any X va wa dn vc dn wc D D (DA.later h) (DB.later h)
      rw [sameL_refl] at RS
      have SN := hNr.src
      rw [HNL.out] at SN
      have HLM : Hid ((N.map fun n : Nat => (n : Int)).length = len0) := by show _ = _; rw [List.length_map, HNL.out]
      clear hown HO hO hownr hdn hN hDL DB HTK hD hiL
      go_wp2_with fail
      refine (RS wr (Below.refl _ _)).mono ?_
      rintro e w5 ⟨rfl, hb5⟩
      clear RS
      have hbw5 := hbw.trans (hb5.mono hbw.size)
      go_wp2_with fail
      go_loopw [9] (fun k wq => ∃ n : Nat, k = .int .i64 (n : Int) ∧ n ≤ len0 ∧ Below w5.heap.size w5 wq) (fun k _ => len0 - (intOf k).toNat)
      case atStart => exact ⟨0, rfl, Nat.zero_le _, Below.refl _ _⟩
      case round =>
        obtain ⟨n, rfl, hn, hbq⟩ := hrel
        have hbx := hbw5.trans (hbq.mono hbw5.size)
        have hby := hb5.trans (hbq.mono hb5.size)
        by_cases hln : n < len0
        · have hln' : (n : Int) < (len0 : Int) := by omega
          obtain ⟨d, g, o, hd, wd, rfl, hg, c0, c1, c2⟩ := data_at (w0.later hbx) hln
          obtain ⟨h1, h2, h3⟩ := HAT.out n d hd
          obtain ⟨gz, oz, hze, hcz⟩ := src_atI (Src.later SN hby) hln
          cases hze
          have hgd : (N.map fun n : Nat => (n : Int)).getD n 0 = ((ix D d : Nat) : Int) := by simp [List.getD, h1]
          rw [hgd, Nat.zero_add] at hcz
          obtain ⟨x, gx, ox, hx, wx, rfl, hgx, d0, d1, d2⟩ := data_at (DA.later hby) h2
          rw [h3] at hx
          cases hx
          have h2' : (((ix D d : Nat) : Int)) < (dn : Int) := by omega
          have h3' : ¬ (dn : Int) ≤ ((ix D d : Nat) : Int) := by omega
          have h4' : ¬ ((ix D d : Nat) : Int) < 0 := by omega
          have g1 : decide ((dn : Int) ≤ ((ix D d : Nat) : Int)) = false := by simpa using h3'
          have g2 : decide (((ix D d : Nat) : Int) < 0) = false := by simp
          have g3 : decide (dn ≤ ix D d) = false := by simp; omega
          have r0 := cell_regrown c0; have r1 := cell_regrown c1; have r2 := cell_regrown c2; have s0 := cell_regrown d0; have s1 := cell_regrown d1; have s2 := cell_regrown d2
          have rz := cell_regrown hcz
          have RE := fun W => run_neD d d W
          rw [sameD_refl] at RE
          generalize ix D d = q at *
          clear h1 h3 hd wd wx c0 c1 c2 d0 d1 d2 hgd
          go_wp2_with fail
          refine wp_region_quiet_below (by kernel_rfl) (by kernel_rfl) ?_
          repeat (go_big_quiet_step (fail))
          refine wpQuiet_nil ?_
          intro _ hw'
          obtain ⟨⟨dq, osq⟩, hw''⟩ := hw'
          subst hw''
          have hqq := below_regrown wr dq osq
          generalize grow (redrawn wr dq) osq = wz at *
          clear r0 r1 r2 s0 s1 s2 rz RE
          go_wp2_with fail
          go_roundw
          case rel => exact ⟨n + 1, by go_num, by omega, hbq.trans (hqq.mono hbq.size)⟩
          case measure => simp [intOf]; omega
        · have hge : (len0 : Int) ≤ (n : Int) := by omega
          have PY := pick_yes va dn vc D (some ⟨R, 0, none⟩) len0 len0 (N.map fun n : Nat => (n : Int)) wr (DA.later hby) (by omega) (Src.later SN hby) HIN.out
          rw [HPN.out] at PY
          have D0 := fun X (h : Below w.heap.size w X) => w0.later h
          go_wp2_with fail
          refine PY.mono ?_
          rintro e w6 ⟨R6, rfl, hv6, hR6, hb6⟩
          have hb06 := hbx.trans (hb6.mono hbx.size)
          have D6 := hv6.data w0.2.2.2.1 (by rw [HL.out]; omega)
          rw [HL.out] at D6
          have RS := rsameAll_any w6 (some ⟨R6, 0, none⟩) a0 len0 len0 len0 cap0 l0 l0 D6 (w0.later hb06)
          rw [sameL_refl] at RS
          go_wp2_with fail
          refine RS.mono ?_
          rintro e w7 ⟨rfl, hb7⟩
          go_wp2_with fail
          go_ret
          exact ⟨rfl, hb06.trans (hb7.mono hb06.size)⟩

set_option maxRecDepth 100000 in
theorem lifted (os : Os) (started : os.Started) (H : Type) (enc : TypeId × Value → H) :
    ReturnsInHanded {} Try.checked os 3 .any (Rows.dictMakeSpec.pre6 enc Try.prog Try.f3 Rows.dictMakeRow.domain false) (Rows.dictMakeSpec.post enc Try.prog Try.f3 false true false false) := by
  refine returnsInHanded_of_change_sized (C := Try.checked) own started (by kernel_rfl) Try.func3
    (ChangeSpec.witness6 (enc := enc) (C := Try.checked) false ⟨#[], #[.slice none 0 0], []⟩ 8 (by kernel_rfl) (by kernel_rfl) (by kernel_rfl) (by kernel_rfl)) ?_
  intro W base args ds gs before hval0 hW hcnd hsz0 _
  have hsz : (DataW.weightsEach Try.prog (Try.f3.params.toList ++ Rows.dictMakeSpec.plain.varTypes Try.prog) (ds ++ gs)).all (· ≤ reachBytes) = true := hsz0
  clear hsz0
  have hval : ∀ (j : Nat) t v, Try.f3.params[j]? = some t → args[j]? = some v → Value.okWide Try.prog W .any base t v := hval0
  have hW' := hW
  obtain ⟨p, q, hA0, hV, rfl, hfz, hnd⟩ := hW
  have hA : DataW.TrodAll enc Try.prog W 0 (fun _ => true) true Try.f3.params.toList args.toList ds p := hA0
  rw [Try.params3] at hA hval hsz
  obtain ⟨v0, vs0, d0, ds0, p0, q0, hargs, rfl, rfl, h0, r0⟩ := trodAll_cons hA
  obtain ⟨rfl, rfl, rfl⟩ := trodAll_nil r0
  obtain rfl : args = #[v0] := by cases args; simp_all
  obtain ⟨rfl, rfl⟩ := trodVars_none hV
  have e0 := h0
  have lt0 : ∀ x ∈ p0, x.block < W.heap.size := by obtain ⟨m, hm⟩ := e0; exact DataW.trod_lt m _ _ _ hm
  obtain ⟨a0, len0, cap0, l0, rfl, w0⟩ := arg_data hsz 0 rfl rfl (hval 0 22 v0 rfl rfl) h0
  clear hA0 hval0
  refine (walk a0 len0 cap0 l0 W w0).mono fun e W' ⟨he, bel⟩ => ?_
  subst he
  exact ⟨_, rfl, _, _, _, [], _, [], hW', trodAll_mk1 (shut_bool Try.underlying4 _), (trodAll_cons_mk (Below.trod laidOut (by kernel_rfl) (of_decide_eq_true (by kernel_rfl)) e0 bel lt0) trodAll_mk0), rfl, bel.frame _, fun h => by cases h⟩

theorem over : Rows.dictMakeRow.holds Try.pinned (OpenSpec.ofChange Rows.dictMakeSpec) :=
  OpenClaim.holds_of_wide 3 Try.f3 rfl rfl rfl rfl rfl rfl rfl ⟨rfl, rfl, rfl, rfl, rfl⟩ rfl rfl rfl rfl rfl (by kernel_rfl) Try.func3 (by kernel_rfl)
    (of_decide_eq_true (by kernel_rfl)) (by unfold Func.isWrapper; first | (rw [if_pos (by decide +kernel)]; kernel_rfl) | (rw [if_neg (by decide +kernel)]; exact ⟨rfl, rfl⟩))
    (fun os started H enc _ => lifted os started H enc)

theorem proved : Rows.DictMakeSaid := over
#print axioms proved
end Go.Proofs.Ytlajjkpcgokinaa.dictMake
namespace Go.Proofs.Ytlajjkpcgokinaa
theorem dictMake_holds : Rows.DictMakeSaid := dictMake.proved
end Go.Proofs.Ytlajjkpcgokinaa
