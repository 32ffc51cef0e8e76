/-
  For any bytes (of at most 10000; else the law asks the chapter's sums alone) sums.Crc of the bytes and behind them sums.Bytes of their sums.Crc is 2144df1c, and the chapter's sums are right. No condition; the table is tied to the program's text.
-/
import Derived.Test.YtjncjfefploneaaDoorRows
import Derived.Test.YtjncjfefploneaaDoorFrame
import Derived.Test.YtjncjfefploneaaDoorBytes
import Derived.Test.YtjncjfefploneaaDoorTie
import Derived.Test.YtjncjfefploneaaDoorCards
import Derived.WalkKit
import Derived.ProofKit
import Derived.OpenShut
import Derived.ShutString
import Derived.ChangeOld
import Derived.Below
import Derived.SevenTiedAt
namespace Go.Proofs.YtjncjfefploneaaDoor.sumsRest
open Go.ChangeShapes Go.WideShapes Go.ChangeAt Go.RowKit
set_option linter.unusedVariables false

set_option maxHeartbeats 2000000 in
theorem walk (a0 : Option Addr) (len0 cap0 : Nat) (z0 : List Int) (w : World) (w0 : IsRow .u8 w a0 len0 cap0 z0) (ht : Tab w) :
    Calls Tryd.prog 8 #[.slice a0 len0 cap0] w fun e w' => e = .returned (.bool true) ∧ Below w.heap.size w w' := by
  by_cases c : 10000 < len0
  · have c' : (10000 : Int) < (len0 : Int) := by omega
    go_enter Tryd.func8, Tryd.ntmps8
    go_wp2_with fail
    refine (works_any w ht).mono ?_
    rintro e W1 ⟨rfl, hb1⟩
    go_wp2
    go_ret
    exact ⟨rfl, hb1⟩
  · have c' : (len0 : Int) ≤ 10000 := by omega
    obtain ⟨i0, hi, hz0, hz1, hz2⟩ := info_parts Tryd.info5'
    obtain ⟨l, hl, hB, hs⟩ := row_nat w0
    have hu : upd 0 l < 4294967296 := upd_lt (by omega) hB
    have HB : Hid (B8 (l ++ four8 (upd 0 l))) := by
      intro x hx
      rcases List.mem_append.1 hx with hx | hx
      · exact hB x hx
      · exact four8_b8 _ x hx
    have HR : Hid _ := rest_sum l hB
    clear w0 hl
    go_enter Tryd.func8, Tryd.ntmps8
    go_wp2_with (at_builtin; refine wpList_append_src rfl (.tmp 7) (.tmp 8) 22 rfl w.heap.size 5 i0 (.int .u8 0) 1 Tryd.underlying22 hi hz0 hz1 hz2 rfl _ _ _ rfl (World.ownsRow_made _ _ 0 (Nat.le_refl _) (Nat.zero_le _) rfl) _ _ _ (c8 l) rfl (hs.later ((Below.refl _ w).alloc (Nat.le_refl _) _)) (c8_one l) (by unfold maxLen; omega) (by omega) (by simp) ?_; intro v1 W1 hown1 hb1; have hb01 := ((Below.refl _ w).alloc (Nat.le_refl _) _).trans hb1)
    refine (crc_any a0 len0 cap0 l W1 (by omega) (hs.later hb01) hB (ht.later hb01)).mono ?_
    rintro e W2 ⟨rfl, hb2⟩
    have hb02 := hb01.trans (hb2.mono hb01.size)
    go_wp2_with fail
    refine (bytes_any (upd 0 l) W2 hu).mono ?_
    rintro e W3 ⟨v3, rfl, hown3, hb3⟩
    have hb03 := hb02.trans (hb3.mono hb02.size)
    obtain ⟨ad3, c3, rfl⟩ := own_sl hown3
    have hs3 := (src_own hown3).2
    have hown13 := own_below hown1 (hb2.trans (hb3.mono hb2.size))
    generalize four8 (upd 0 l) = f at *
    go_wp2_with (at_builtin; refine wpList_append_src rfl (.tmp 9) (.tmp 12) 22 rfl w.heap.size 5 i0 (.int .u8 0) 1 Tryd.underlying22 hi hz0 hz1 hz2 rfl _ _ _ rfl hown13 _ _ _ (c8 f) rfl hs3 (c8_one f) (by unfold maxLen; omega) (by omega) hb03.size ?_; intro v4 W4 hown4 hb4; obtain ⟨ad4, c4, rfl⟩ := own_sl hown4; have hb04 := hb03.trans hb4)
    have hs4 := (src_own hown4).2
    rw [List.nil_append, ← c8_append, Nat.zero_add] at hs4
    refine (crc_any ad4 (len0 + 4) c4 (l ++ f) W4 (by omega) hs4 HB.out (ht.later hb04)).mono ?_
    rintro e W5 ⟨rfl, hb5⟩
    have hb05 := hb04.trans (hb5.mono hb04.size)
    rw [HR.out]
    go_wp2_with fail
    refine (works_any W5 (ht.later hb05)).mono ?_
    rintro e W6 ⟨rfl, hb6⟩
    go_wp2
    go_ret
    exact ⟨rfl, hb05.trans (hb6.mono hb05.size)⟩

set_option maxRecDepth 100000 in
theorem lifted (os : Os) (started : os.Started) (H : Type) (enc : TypeId × Value → H) :
    ReturnsInHanded {} Tryd.checked os 8 .any (fun w args => (Rows.sumsRestSpec.pre enc Tryd.prog Tryd.f8 [] false w args ∧ laidMetH Tryd.prog laid1 w) ∧ sizedMet enc Tryd.prog Tryd.f8 (OpenSpec.ofChange Rows.sumsRestSpec) false w args)
      (Rows.sumsRestSpec.post enc Tryd.prog Tryd.f8 false true false false) := by
  refine returnsInHanded_of_change_and (C := Tryd.checked) (X := fun w _ => laidMetH Tryd.prog laid1 w) (fun _ _ _ hh h => h.of_heap hh) own started (by kernel_rfl) Tryd.func8
    (ChangeSpec.witness_shaped (enc := enc) (C := Tryd.checked) (os := os) (X := fun w _ => laidMetH Tryd.prog laid1 w) false (World.doorLaid Tryd.prog 14 os) #[.slice none 0 0] 8 rfl (World.shaped_of_RefB (by kernel_rfl) (by kernel_rfl)) (by kernel_rfl) (by kernel_rfl) (by kernel_rfl) (door_met os _)) ?_
  intro W base args ds gs before hval0 hW _ _ hL _
  have hval : ∀ (j : Nat) t v, Tryd.f8.params[j]? = some t → args[j]? = some v → Value.okWide Tryd.prog W .any base t v := hval0
  have hW' := hW
  obtain ⟨p, q, hA0, hV, rfl, hfz, hnd⟩ := hW
  have hA : DataW.TrodAll enc Tryd.prog W 0 (fun _ => true) true Tryd.f8.params.toList args.toList ds p := hA0
  rw [Tryd.params8] at hA hval
  obtain ⟨v0, vs0, d0, ds0, p0, q0, hargs, rfl, rfl, h0, r0⟩ := trodAll_cons hA
  obtain ⟨rfl, rfl, rfl⟩ := trodAll_nil r0
  obtain rfl : args = #[v0] := by cases args; simp_all
  obtain ⟨rfl, rfl⟩ := trodVars_none hV
  obtain ⟨a0, len0, cap0, rfl⟩ := okWide_slice Tryd.underlying22 (hval 0 22 v0 rfl rfl)
  have k0 := h0
  have lt0 : ∀ x ∈ p0, x.block < W.heap.size := by obtain ⟨m, hm⟩ := k0; exact DataW.trod_lt m _ _ _ hm
  obtain ⟨z0, w0⟩ := row_open h0
  clear hA0 hval0
  refine (walk a0 len0 cap0 z0 W w0 (tab_of_laid hL)).mono fun e W' ⟨he, bel⟩ => ?_
  subst he
  exact ⟨_, rfl, _, _, _, [], _, [], hW', trodAll_mk1 (shut_bool Tryd.underlying4 _), (trodAll_cons_mk (Below.trod laidOut (by kernel_rfl) (of_decide_eq_true (by kernel_rfl)) k0 bel lt0) trodAll_mk0), rfl, bel.frame _, fun h => by cases h⟩

theorem over : Rows.sumsRestRow.holds Tryd.pinned (OpenSpec.ofChange Rows.sumsRestSpec) :=
  OpenClaim.holds_of_wide 8 Tryd.f8 rfl rfl rfl rfl rfl rfl rfl ⟨rfl, rfl, rfl, rfl, rfl⟩ rfl rfl rfl rfl rfl (by kernel_rfl) Tryd.func8 (by kernel_rfl)
    (of_decide_eq_true (by kernel_rfl)) (by unfold Func.isWrapper; first | (rw [if_pos (by decide +kernel)]; kernel_rfl) | (rw [if_neg (by decide +kernel)]; exact ⟨rfl, rfl⟩))
    (fun os started H enc _ => lifted os started H enc)

theorem card : Rows.SumsRestCardSaid :=
  Claim7.holds_tied_plain_at .later [] [.data] true (true, "8ca91c6f4a492acbc63ee087cf3bd273d339706e3e0dbeaa56dc68a67d6b70f2") false
    over (fun _ h => by cases h) (by kernel_rfl) (fun _ h => by cases h) sumsRest_row_tie rfl ⟨rfl, rfl⟩ (by kernel_rfl) rfl
    (fun f fn hf hfn => by
      obtain rfl : f = 8 := Option.some.inj ((show Tryd.prog.funcNamed Rows.sumsRestRow.func = some 8 by kernel_rfl).symm.trans hf) |>.symm
      obtain rfl : fn = Tryd.f8 := (Option.some.inj (Tryd.func8.symm.trans hfn)).symm
      exact ⟨by kernel_rfl, fun j t ht => by
        rw [Tryd.params8] at ht
        have hm : t ∈ [22] := by simpa using Array.mem_of_getElem? ht
        have hall : ([22].all fun u => !Tryd.prog.wantsStandIn u) = true := by kernel_rfl
        exact (show Tryd.prog.wantsStandIn t = false by simpa using List.all_eq_true.1 hall t hm)⟩)
    (by kernel_rfl)
end Go.Proofs.YtjncjfefploneaaDoor.sumsRest
namespace Go.Proofs.YtjncjfefploneaaDoor
theorem sumsRest_holds : Rows.SumsRestCardSaid := sumsRest.card
#print axioms sumsRest_holds
end Go.Proofs.YtjncjfefploneaaDoor
