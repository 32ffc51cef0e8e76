/-
  For any two rows of bytes (of at most 10000 each; else the law asks the chapter's sums alone) sums.Update of the first one's Crc with the second is the Crc of both, one behind the other, Update of 0 is Crc, and the chapter's sums are right. No condition; the table is tied to the program's text.
-/
import Derived.Test.YtjncjfefploneaaDoorRows
import Derived.Test.YtjncjfefploneaaDoorFrame
import Derived.Test.YtjncjfefploneaaDoorMem
import Derived.Test.YtjncjfefploneaaDoorTie
import Derived.Test.YtjncjfefploneaaDoorCards
import Derived.WalkKit
import Derived.ProofKit
import Derived.OpenShut
import Derived.ShutString
import Derived.ChangeOld
import Derived.Below
import Derived.SevenTiedAt
namespace Go.Proofs.YtjncjfefploneaaDoor.sumsJoin
open Go.ChangeShapes Go.WideShapes Go.ChangeAt Go.RowKit
set_option linter.unusedVariables false

set_option maxHeartbeats 2000000 in
theorem walk (a0 : Option Addr) (len0 cap0 : Nat) (z0 : List Int) (a1 : Option Addr) (len1 cap1 : Nat) (z1 : List Int) (w : World) (w0 : IsRow .u8 w a0 len0 cap0 z0) (w1 : IsRow .u8 w a1 len1 cap1 z1) (ht : Tab w) :
    Calls Tryd.prog 7 #[.slice a0 len0 cap0, .slice a1 len1 cap1] w fun e w' => e = .returned (.bool true) ∧ Below w.heap.size w w' := by
  by_cases c : 10000 < len0
  · have c' : (10000 : Int) < (len0 : Int) := by omega
    go_enter Tryd.func7, Tryd.ntmps7
    go_wp2_with fail
    refine (works_any w ht).mono ?_
    rintro e W1 ⟨rfl, hb1⟩
    go_wp2
    go_ret
    exact ⟨rfl, hb1⟩
  have c' : (len0 : Int) ≤ 10000 := by omega
  by_cases d : 10000 < len1
  · have d' : (10000 : Int) < (len1 : Int) := by omega
    go_enter Tryd.func7, Tryd.ntmps7
    go_wp2_with fail
    refine (works_any w ht).mono ?_
    rintro e W1 ⟨rfl, hb1⟩
    go_wp2
    go_ret
    exact ⟨rfl, hb1⟩
  have d' : (len1 : Int) ≤ 10000 := by omega
  obtain ⟨i0, hi, hz0, hz1, hz2⟩ := info_parts Tryd.info5'
  obtain ⟨l, hl, hB, hs⟩ := row_nat w0
  obtain ⟨m, hm, hB2, hs2⟩ := row_nat w1
  have HB : Hid (B8 (l ++ m)) := by
    intro x hx
    rcases List.mem_append.1 hx with hx | hx
    · exact hB x hx
    · exact hB2 x hx
  have HU : Hid (upd (upd 0 l) m = upd 0 (l ++ m)) := (upd_append 0 l m).symm
  have hu : upd 0 l < 4294967296 := upd_lt (by omega) hB
  clear w0 w1 hl hm
  go_enter Tryd.func7, Tryd.ntmps7
  go_wp2_with (first | (at_builtin; refine wpList_append_src rfl (.tmp 15) (.tmp 16) 22 rfl w.heap.size 5 i0 (.int .u8 0) 1 Tryd.underlying22 hi hz0 hz1 hz2 rfl _ _ _ rfl (World.ownsRow_made _ _ 0 (Nat.le_refl _) (Nat.zero_le _) rfl) _ _ _ (c8 l) rfl (hs.later ((Below.refl _ w).alloc (Nat.le_refl _) _)) (c8_one l) (by unfold maxLen; omega) (by omega) (by simp) ?_; intro v1 W1 hown1 hb1; have hb01 := ((Below.refl _ w).alloc (Nat.le_refl _) _).trans hb1) | (at_builtin; refine wpList_append_src rfl (.tmp 17) (.tmp 18) 22 rfl w.heap.size 5 i0 (.int .u8 0) 1 Tryd.underlying22 hi hz0 hz1 hz2 rfl _ _ _ rfl hown1 _ _ _ (c8 m) rfl (hs2.later hb01) (c8_one m) (by unfold maxLen; omega) (by omega) hb01.size ?_; intro v2 W2 hown2 hb2; obtain ⟨g, cc, rfl⟩ := own_sl hown2; have hb02 := hb01.trans hb2; clear hown1))
  refine (crc_any a0 len0 cap0 l W2 (by omega) (hs.later hb02) hB (ht.later hb02)).mono ?_
  rintro e W3 ⟨rfl, hb3⟩
  have hb03 := hb02.trans (hb3.mono hb02.size)
  go_wp2_with fail
  refine (update_any (upd 0 l) a1 len1 cap1 m W3 hu (by omega) (hs2.later hb03) hB2 (ht.later hb03)).mono ?_
  rintro e W4 ⟨rfl, hb4⟩
  have hb04 := hb03.trans (hb4.mono hb03.size)
  have hb24 := hb3.trans (hb4.mono hb3.size)
  have hown4 := own_below hown2 hb24
  rw [Nat.zero_add, List.nil_append, ← c8_append] at hown4
  have hs4 := (src_own hown4).2
  go_wp2_with fail
  refine (crc_any g (len0 + len1) cc (l ++ m) W4 (by omega) hs4 HB.out (ht.later hb04)).mono ?_
  rintro e W5 ⟨rfl, hb5⟩
  have hb05 := hb04.trans (hb5.mono hb04.size)
  rw [HU.out]
  go_wp2_with fail
  refine (update_any 0 a0 len0 cap0 l W5 (by omega) (by omega) (hs.later hb05) hB (ht.later hb05)).mono ?_
  rintro e W6 ⟨rfl, hb6⟩
  have hb06 := hb05.trans (hb6.mono hb05.size)
  go_wp2_with fail
  refine (crc_any a0 len0 cap0 l W6 (by omega) (hs.later hb06) hB (ht.later hb06)).mono ?_
  rintro e W7 ⟨rfl, hb7⟩
  have hb07 := hb06.trans (hb7.mono hb06.size)
  go_wp2_with fail
  refine (works_any W7 (ht.later hb07)).mono ?_
  rintro e W8 ⟨rfl, hb8⟩
  go_wp2
  go_ret
  exact ⟨rfl, hb07.trans (hb8.mono hb07.size)⟩

set_option maxRecDepth 100000 in
theorem lifted (os : Os) (started : os.Started) (H : Type) (enc : TypeId × Value → H) :
    ReturnsInHanded {} Tryd.checked os 7 .any (fun w args => (Rows.sumsJoinSpec.pre enc Tryd.prog Tryd.f7 [] false w args ∧ laidMetH Tryd.prog laid1 w) ∧ sizedMet enc Tryd.prog Tryd.f7 (OpenSpec.ofChange Rows.sumsJoinSpec) false w args)
      (Rows.sumsJoinSpec.post enc Tryd.prog Tryd.f7 false true false false) := by
  refine returnsInHanded_of_change_and (C := Tryd.checked) (X := fun w _ => laidMetH Tryd.prog laid1 w) (fun _ _ _ hh h => h.of_heap hh) own started (by kernel_rfl) Tryd.func7
    (ChangeSpec.witness_shaped (enc := enc) (C := Tryd.checked) (os := os) (X := fun w _ => laidMetH Tryd.prog laid1 w) false (World.doorLaid Tryd.prog 14 os) #[.slice none 0 0, .slice none 0 0] 8 rfl (World.shaped_of_RefB (by kernel_rfl) (by kernel_rfl)) (by kernel_rfl) (by kernel_rfl) (by kernel_rfl) (door_met os _)) ?_
  intro W base args ds gs before hval0 hW _ _ hL _
  have hval : ∀ (j : Nat) t v, Tryd.f7.params[j]? = some t → args[j]? = some v → Value.okWide Tryd.prog W .any base t v := hval0
  have hW' := hW
  obtain ⟨p, q, hA0, hV, rfl, hfz, hnd⟩ := hW
  have hA : DataW.TrodAll enc Tryd.prog W 0 (fun _ => true) true Tryd.f7.params.toList args.toList ds p := hA0
  rw [Tryd.params7] at hA hval
  obtain ⟨v0, vs0, d0, ds0, p0, q0, hargs, rfl, rfl, h0, r0⟩ := trodAll_cons hA
  obtain ⟨v1, vs1, d1, ds1, p1, q1, rfl, rfl, rfl, h1, r1⟩ := trodAll_cons r0
  obtain ⟨rfl, rfl, rfl⟩ := trodAll_nil r1
  obtain rfl : args = #[v0, v1] := by cases args; simp_all
  obtain ⟨rfl, rfl⟩ := trodVars_none hV
  obtain ⟨a0, len0, cap0, rfl⟩ := okWide_slice Tryd.underlying22 (hval 0 22 v0 rfl rfl)
  have k0 := h0
  have lt0 : ∀ x ∈ p0, x.block < W.heap.size := by obtain ⟨m, hm⟩ := k0; exact DataW.trod_lt m _ _ _ hm
  obtain ⟨z0, w0⟩ := row_open h0
  obtain ⟨a1, len1, cap1, rfl⟩ := okWide_slice Tryd.underlying22 (hval 1 22 v1 rfl rfl)
  have k1 := h1
  have lt1 : ∀ x ∈ p1, x.block < W.heap.size := by obtain ⟨m, hm⟩ := k1; exact DataW.trod_lt m _ _ _ hm
  obtain ⟨z1, w1⟩ := row_open h1
  clear hA0 hval0
  refine (walk a0 len0 cap0 z0 a1 len1 cap1 z1 W w0 w1 (tab_of_laid hL)).mono fun e W' ⟨he, bel⟩ => ?_
  subst he
  exact ⟨_, rfl, _, _, _, [], _, [], hW', trodAll_mk1 (shut_bool Tryd.underlying4 _), (trodAll_cons_mk (Below.trod laidOut (by kernel_rfl) (of_decide_eq_true (by kernel_rfl)) k0 bel lt0) (trodAll_cons_mk (Below.trod laidOut (by kernel_rfl) (of_decide_eq_true (by kernel_rfl)) k1 bel lt1) trodAll_mk0)), rfl, bel.frame _, fun h => by cases h⟩

theorem over : Rows.sumsJoinRow.holds Tryd.pinned (OpenSpec.ofChange Rows.sumsJoinSpec) :=
  OpenClaim.holds_of_wide 7 Tryd.f7 rfl rfl rfl rfl rfl rfl rfl ⟨rfl, rfl, rfl, rfl, rfl⟩ rfl rfl rfl rfl rfl (by kernel_rfl) Tryd.func7 (by kernel_rfl)
    (of_decide_eq_true (by kernel_rfl)) (by unfold Func.isWrapper; first | (rw [if_pos (by decide +kernel)]; kernel_rfl) | (rw [if_neg (by decide +kernel)]; exact ⟨rfl, rfl⟩))
    (fun os started H enc _ => lifted os started H enc)

theorem card : Rows.SumsJoinCardSaid :=
  Claim7.holds_tied_plain_at .later [] [.data] true (true, "8ca91c6f4a492acbc63ee087cf3bd273d339706e3e0dbeaa56dc68a67d6b70f2") false
    over (fun _ h => by cases h) (by kernel_rfl) (fun _ h => by cases h) sumsJoin_row_tie rfl ⟨rfl, rfl⟩ (by kernel_rfl) rfl
    (fun f fn hf hfn => by
      obtain rfl : f = 7 := Option.some.inj ((show Tryd.prog.funcNamed Rows.sumsJoinRow.func = some 7 by kernel_rfl).symm.trans hf) |>.symm
      obtain rfl : fn = Tryd.f7 := (Option.some.inj (Tryd.func7.symm.trans hfn)).symm
      exact ⟨by kernel_rfl, fun j t ht => by
        rw [Tryd.params7] at ht
        have hm : t ∈ [22, 22] := by simpa using Array.mem_of_getElem? ht
        have hall : ([22, 22].all fun u => !Tryd.prog.wantsStandIn u) = true := by kernel_rfl
        exact (show Tryd.prog.wantsStandIn t = false by simpa using List.all_eq_true.1 hall t hm)⟩)
    (by kernel_rfl)
end Go.Proofs.YtjncjfefploneaaDoor.sumsJoin
namespace Go.Proofs.YtjncjfefploneaaDoor
theorem sumsJoin_holds : Rows.SumsJoinCardSaid := sumsJoin.card
#print axioms sumsJoin_holds
end Go.Proofs.YtjncjfefploneaaDoor
