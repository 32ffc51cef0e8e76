/-
  For every sum sums.Bytes answers the bytes that the reference's Bytes answers, sums.Of reads them as the sum, and sums.Text answers the reference's Text; and the chapter's sums are right. No condition; the table is tied to the program's text.
-/
import Derived.Test.YtjncjfefploneaaDoorRows
import Derived.Test.YtjncjfefploneaaDoorFrame
import Derived.Test.YtjncjfefploneaaDoorRText
import Derived.Test.YtjncjfefploneaaDoorTie
import Derived.Test.YtjncjfefploneaaDoorCards
import Derived.WalkKit
import Derived.ProofKit
import Derived.OpenShut
import Derived.ShutString
import Derived.ChangeOld
import Derived.Below
import Derived.SevenTiedAt
import Derived.Deep.RegionWith
namespace Go.Proofs.YtjncjfefploneaaDoor.sumsTexts
open Go.ChangeShapes Go.WideShapes Go.ChangeAt Go.RowKit
set_option linter.unusedVariables false

theorem u32_nat {s : Int} (h : (Lit.int .u32 s).wf = true) : ∃ n : Nat, s = n ∧ n < 4294967296 := by
  obtain ⟨h0, h1⟩ : 0 ≤ s ∧ s ≤ 4294967295 := by simpa [Lit.wf, IntKind.min, IntKind.max, IntKind.signed, IntKind.bits] using h
  exact ⟨s.toNat, by omega, by omega⟩

set_option maxHeartbeats 40000000 in
theorem walk (s : Nat) (hsl : s < 4294967296) (w : World) (ht : Tab w) :
    Calls Tryd.prog 5 #[.int .u32 s] w fun e w' => e = .returned (.bool true) ∧ Below w.heap.size w w' := by
  go_enter Tryd.func5, Tryd.ntmps5
  go_wp2_with fail
  refine (bytes_any s w hsl).mono ?_
  rintro e W1 ⟨v1, rfl, hown1, hb1⟩
  obtain ⟨ad1, c1, rfl⟩ := own_sl hown1
  have hs1 := (src_own hown1).2
  go_wp2_with fail
  have O := of_four ad1 c1 (four8 s) W1 hs1 (four8_b8 s)
  rw [four8_num hsl] at O
  refine O.mono ?_
  rintro e wx ⟨rfl, hwx⟩
  obtain rfl := hwx.symm
  have s0 := str_src (hs1.later ((Below.refl _ W1).drew))
  have X1 := fun W => stext_any s W hsl
  have X2 := fun W => rtext_any s W hsl
  have X3 := fun W => rbytes_any s W hsl
  clear O hown1
  generalize strOfNums ((hxd 8 s).map fun n : Nat => (n : Int)) = T at X1 X2
  generalize four8 s = f at *
  go_wp2_with fail
  go_region_with (first | (go_at_call 18; refine (X3 _).mono ?_; rintro e W2 ⟨v2, rfl, hown2, hb2⟩; have s1 := str_own hown2; have hb12 := ((Below.refl _ W1).drew).trans hb2; have s2 := str_src (hs1.later hb12); have hb02 := hb1.trans (hb12.mono hb1.size)) | (go_at_call 19; refine (num_any _ _).mono ?_; rintro e wx ⟨rfl, hwx⟩; obtain rfl := hwx.symm) | (go_at_call 20; refine (X1 _).mono ?_; rintro e W3 ⟨rfl, hb3⟩; have hb03 := hb02.trans (hb3.mono hb02.size)) | (go_at_call 21; refine (X2 _).mono ?_; rintro e W4 ⟨rfl, hb4⟩; have hb04 := hb03.trans (hb4.mono hb03.size)) | (go_at_call 9; refine (works_any _ (ht.later hb04)).mono ?_; rintro e W5 ⟨rfl, hb5⟩))
  all_goals go_wp2
  all_goals go_ret
  all_goals exact ⟨rfl, hb04.trans (hb5.mono hb04.size)⟩

set_option maxRecDepth 100000 in
theorem lifted (os : Os) (started : os.Started) (H : Type) (enc : TypeId × Value → H) :
    ReturnsInHanded {} Tryd.checked os 5 .any (fun w args => (Rows.sumsTextsSpec.pre enc Tryd.prog Tryd.f5 [] false w args ∧ laidMetH Tryd.prog laid1 w) ∧ sizedMet enc Tryd.prog Tryd.f5 (OpenSpec.ofChange Rows.sumsTextsSpec) false w args)
      (Rows.sumsTextsSpec.post enc Tryd.prog Tryd.f5 false true false false) := by
  refine returnsInHanded_of_change_and (C := Tryd.checked) (X := fun w _ => laidMetH Tryd.prog laid1 w) (fun _ _ _ hh h => h.of_heap hh) own started (by kernel_rfl) Tryd.func5
    (ChangeSpec.witness_shaped (enc := enc) (C := Tryd.checked) (os := os) (X := fun w _ => laidMetH Tryd.prog laid1 w) false (World.doorLaid Tryd.prog 14 os) #[.int .u32 0] 8 rfl (World.shaped_of_RefB (by kernel_rfl) (by kernel_rfl)) (by kernel_rfl) (by kernel_rfl) (by kernel_rfl) (door_met os _)) ?_
  intro W base args ds gs before hval0 hW _ _ hL _
  have hval : ∀ (j : Nat) t v, Tryd.f5.params[j]? = some t → args[j]? = some v → Value.okWide Tryd.prog W .any base t v := hval0
  have hW' := hW
  obtain ⟨p, q, hA0, hV, rfl, hfz, hnd⟩ := hW
  have hA : DataW.TrodAll enc Tryd.prog W 0 (fun _ => true) true Tryd.f5.params.toList args.toList ds p := hA0
  rw [Tryd.params5] at hA hval
  obtain ⟨vs, vss, ds', dss, ps, qs, hargs, rfl, rfl, hs, rs⟩ := trodAll_cons hA
  obtain ⟨rfl, rfl, rfl⟩ := trodAll_nil rs
  obtain rfl : args = #[vs] := by cases args; simp_all
  obtain ⟨rfl, rfl⟩ := trodVars_none hV
  obtain ⟨s, rfl, rfl, rfl, ws⟩ := open_int Tryd.underlying25 (hval 0 25 vs rfl rfl) hs
  clear hA0 hval0
  obtain ⟨n, rfl, hn⟩ := u32_nat ws
  refine (walk n hn W (tab_of_laid hL)).mono fun e W' ⟨he, bel⟩ => ?_
  subst he
  exact ⟨_, rfl, _, _, _, [], _, [], hW', trodAll_mk1 (shut_bool Tryd.underlying4 _), (trodAll_cons_mk (shut_int Tryd.underlying25 ws) trodAll_mk0), rfl, bel.frame _, fun h => by cases h⟩

theorem over : Rows.sumsTextsRow.holds Tryd.pinned (OpenSpec.ofChange Rows.sumsTextsSpec) :=
  OpenClaim.holds_of_wide 5 Tryd.f5 rfl rfl rfl rfl rfl rfl rfl ⟨rfl, rfl, rfl, rfl, rfl⟩ rfl rfl rfl rfl rfl (by kernel_rfl) Tryd.func5 (by kernel_rfl)
    (of_decide_eq_true (by kernel_rfl)) (by unfold Func.isWrapper; first | (rw [if_pos (by decide +kernel)]; kernel_rfl) | (rw [if_neg (by decide +kernel)]; exact ⟨rfl, rfl⟩))
    (fun os started H enc _ => lifted os started H enc)

theorem card : Rows.SumsTextsCardSaid :=
  Claim7.holds_tied_plain_at .later [] [.data] true (true, "8ca91c6f4a492acbc63ee087cf3bd273d339706e3e0dbeaa56dc68a67d6b70f2") false
    over (fun _ h => by cases h) (by kernel_rfl) (fun _ h => by cases h) sumsTexts_row_tie rfl ⟨rfl, rfl⟩ (by kernel_rfl) rfl
    (fun f fn hf hfn => by
      obtain rfl : f = 5 := Option.some.inj ((show Tryd.prog.funcNamed "marquetry/marquetrylaw02.SumsTexts" = some 5 by kernel_rfl).symm.trans hf) |>.symm
      obtain rfl : fn = Tryd.f5 := (Option.some.inj (Tryd.func5.symm.trans hfn)).symm
      exact ⟨by kernel_rfl, fun j t ht => by
        rw [Tryd.params5] at ht
        have hm : t ∈ [25] := by simpa using Array.mem_of_getElem? ht
        have hall : ([25].all fun u => !Tryd.prog.wantsStandIn u) = true := by kernel_rfl
        exact (show Tryd.prog.wantsStandIn t = false by simpa using List.all_eq_true.1 hall t hm)⟩)
    (by kernel_rfl)
end Go.Proofs.YtjncjfefploneaaDoor.sumsTexts
namespace Go.Proofs.YtjncjfefploneaaDoor
theorem sumsTexts_holds : Rows.SumsTextsCardSaid := sumsTexts.card
#print axioms sumsTexts_holds
end Go.Proofs.YtjncjfefploneaaDoor
