/-
  For any datum whose text has at most 2000 bytes datum.Text answers the reference's Text. The tables that the code and the library read are tied to the program's text.
-/
import Derived.Test.YtndeglamnnipoaaDoorRows
import Derived.Test.YtndeglamnnipoaaDoorFrameD
import Derived.Test.YtndeglamnnipoaaDoorTie
import Derived.Test.YtndeglamnnipoaaDoorCards
import Derived.WalkKit
import Derived.ProofKit
import Derived.OpenShut
import Derived.ShutString
import Derived.ChangeOld
import Derived.Below
import Derived.SevenTiedAt
import Derived.Lib.QuietBelow
import Derived.BigQuiet
namespace Go.Proofs.YtndeglamnnipoaaDoor.datumText
open Go.ChangeShapes Go.WideShapes Go.ChangeAt Go.RowKit Go.Deep Go.Sort
set_option linter.unusedVariables false
set_option linter.unusedSimpArgs false

set_option maxRecDepth 100000 in
set_option maxHeartbeats 2000000 in
theorem walk (k0 n0 : Int) (s0 : ByteArray) (w : World) (w0 : (Lit.int .i64 n0).wf = true) (ht : Tabs w) :
    Calls Tryd.prog 3 #[.agg #[.int .i64 k0, .int .i64 n0, .string s0]] w fun e w' => e = .returned (.bool true) ∧ RowKit.Below w.heap.size w w' := by
  have hx0 : (w.alloc (.cells #[.int .i64 k0, .int .i64 n0, .string s0] 24)).heap[w.heap.size]? = some (.cells #[.int .i64 k0, .int .i64 n0, .string s0] 24 (0, 0)) := heap_new _ _
  have b0 : RowKit.Below w.heap.size w (w.alloc (.cells #[.int .i64 k0, .int .i64 n0, .string s0] 24)) := alloc_below _ _
  by_cases hl : s0.size ≤ 2000
  · have hl' : ¬ (2000 : Int) < (s0.size : Int) := by omega
    have ht0 := ht.later b0
    have C1 := fun W (h : Tabs W) => text_any k0 n0 s0 W w0 hl h
    have C2 := fun W (h : Tabs W) => rtext_any k0 n0 s0 W w0 hl h
    generalize tT k0 n0 s0 = T at *
    clear w0 ht hl
    go_enter Tryd.func3, Tryd.ntmps3
    go_wp2_with fail
    generalize w.alloc (.cells #[.int .i64 k0, .int .i64 n0, .string s0] 24) = W0 at *
    obtain ⟨⟨c0, c1, c2⟩, _⟩ := blk3 hx0
    have r0 := cell_regrown c0; have r1 := cell_regrown c1; have r2 := cell_regrown c2
    have R1 : ∀ x os, Calls Tryd.prog 4 #[.agg #[.int .i64 k0, .int .i64 n0, .string s0]] (grow (redrawn W0 x) os) fun e w'' => e = .returned (.string T) ∧ ∃ p : Regrown, w'' = grow (redrawn W0 p.d) p.os := fun x os => Calls.regrown_of (C1 _ (ht0.later (below_regrown W0 x os)))
    have R2 : ∀ x os, Calls Tryd.prog 5 #[.agg #[.int .i64 k0, .int .i64 n0, .string s0]] (grow (redrawn W0 x) os) fun e w'' => e = .returned (.string T) ∧ ∃ p : Regrown, w'' = grow (redrawn W0 p.d) p.os := fun x os => Calls.regrown_of (C2 _ (ht0.later (below_regrown W0 x os)))
    clear hx0 C1 C2
    refine wp_region_quiet_below (by kernel_rfl) (by kernel_rfl) ?_
    repeat (go_big_quiet_step (first | (with_reducible exact R1 _ _) | (with_reducible exact R2 _ _)))
    refine wpQuiet_nil ?_
    intro _ hw'
    obtain ⟨⟨dq, osq⟩, hw''⟩ := hw'
    subst hw''
    have hbq := below_regrown W0 dq osq
    generalize grow (redrawn W0 dq) osq = wq at *
    go_wp2_with fail
    go_ret
    exact ⟨by simp, b0.trans (hbq.mono b0.size)⟩
  · have hl' : (2000 : Int) < (s0.size : Int) := by omega
    clear w0 ht hl
    go_enter Tryd.func3, Tryd.ntmps3
    go_wp2_with fail
    go_ret
    exact ⟨rfl, b0⟩

set_option maxRecDepth 100000 in
theorem lifted (os : Os) (started : os.Started) (H : Type) (enc : TypeId × Value → H) :
    ReturnsInHanded {} Tryd.checked os 3 .any (fun w args => (Rows.datumTextSpec.pre enc Tryd.prog Tryd.f3 [] false w args ∧ laidMetH Tryd.prog laid4 w) ∧ sizedMet enc Tryd.prog Tryd.f3 (OpenSpec.ofChange Rows.datumTextSpec) false w args)
      (Rows.datumTextSpec.post enc Tryd.prog Tryd.f3 false true false false) := by
  refine returnsInHanded_of_change_and (C := Tryd.checked) (X := fun w _ => laidMetH Tryd.prog laid4 w) (fun _ _ _ hh h => h.of_heap hh) own started (by kernel_rfl) Tryd.func3
    (ChangeSpec.witness_shaped (enc := enc) (C := Tryd.checked) (os := os) (X := fun w _ => laidMetH Tryd.prog laid4 w) false (World.doorLaid Tryd.prog 29 os) #[.agg #[.int .i64 0, .int .i64 0, .string { data := #[] }]] 8 rfl (World.shaped_of_RefB (by kernel_rfl) (by kernel_rfl)) (by kernel_rfl) (by kernel_rfl) (by kernel_rfl) (door_met os _)) ?_
  intro W base args ds gs before hval0 hW _ _ hL _
  have hval : ∀ (j : Nat) t v, Tryd.f3.params[j]? = some t → args[j]? = some v → Value.okWide Tryd.prog W .any base t v := hval0
  have hW' := hW
  obtain ⟨p, q, hA0, hV, rfl, hfz, hnd⟩ := hW
  have hA : DataW.TrodAll enc Tryd.prog W 0 (fun _ => true) true Tryd.f3.params.toList args.toList ds p := hA0
  rw [Tryd.params3] at hA hval
  obtain ⟨v0, vs0, d0, ds0, p0, q0, hargs, rfl, rfl, h0, r0⟩ := trodAll_cons hA
  obtain ⟨rfl, rfl, rfl⟩ := trodAll_nil r0
  obtain rfl : args = #[v0] := by cases args; simp_all
  obtain ⟨rfl, rfl⟩ := trodVars_none hV
  have e0 := h0
  have lt0 : ∀ x ∈ p0, x.block < W.heap.size := by obtain ⟨m, hm⟩ := e0; exact DataW.trod_lt m _ _ _ hm
  obtain ⟨k0, n0, s0, rfl, g0, w0, z0⟩ := arg_datum (hval 0 24 v0 rfl rfl) h0
  clear hA0 hval0
  refine (walk k0 n0 s0 W w0 (tabs_of_laid hL)).mono fun e W' ⟨he, bel⟩ => ?_
  subst he
  exact ⟨_, rfl, _, _, _, [], _, [], hW', trodAll_mk1 (shut_bool Tryd.underlying4 _), (trodAll_cons_mk (Below.trod laidOut (by kernel_rfl) (of_decide_eq_true (by kernel_rfl)) e0 bel lt0) trodAll_mk0), rfl, bel.frame _, fun h => by cases h⟩

theorem over : Rows.datumTextRow.holds Tryd.pinned (OpenSpec.ofChange Rows.datumTextSpec) :=
  OpenClaim.holds_of_wide 3 Tryd.f3 rfl rfl rfl rfl rfl rfl rfl ⟨rfl, rfl, rfl, rfl, rfl⟩ rfl rfl rfl rfl rfl (by kernel_rfl) Tryd.func3 (by kernel_rfl)
    (of_decide_eq_true (by kernel_rfl)) (by unfold Func.isWrapper; first | (rw [if_pos (by decide +kernel)]; kernel_rfl) | (rw [if_neg (by decide +kernel)]; exact ⟨rfl, rfl⟩))
    (fun os started H enc _ => lifted os started H enc)

theorem card : Rows.DatumTextCardSaid :=
  Claim7.holds_tied_plain_at .later [] [.data, .data, .data, .data] true (true, "b1db84700e42e1ecf0a5c51402f305077f625b2b016e6a439130f40bd5ba7a5b") false
    over (fun _ h => by cases h) (by kernel_rfl) (fun _ h => by cases h) datumText_row_tie rfl ⟨rfl, rfl⟩ (by kernel_rfl) rfl
    (fun f fn hf hfn => by
      obtain rfl : f = 3 := Option.some.inj ((show Tryd.prog.funcNamed Rows.datumTextRow.func = some 3 by kernel_rfl).symm.trans hf) |>.symm
      obtain rfl : fn = Tryd.f3 := (Option.some.inj (Tryd.func3.symm.trans hfn)).symm
      exact ⟨by kernel_rfl, fun j t ht => by
        rw [Tryd.params3] at ht
        have hm : t ∈ [24] := by simpa using Array.mem_of_getElem? ht
        have hall : ([24].all fun u => !Tryd.prog.wantsStandIn u) = true := by kernel_rfl
        exact (show Tryd.prog.wantsStandIn t = false by simpa using List.all_eq_true.1 hall t hm)⟩)
    (by kernel_rfl)
end Go.Proofs.YtndeglamnnipoaaDoor.datumText
namespace Go.Proofs.YtndeglamnnipoaaDoor
theorem datumText_holds : Rows.DatumTextCardSaid := datumText.card
#print axioms datumText_holds
end Go.Proofs.YtndeglamnnipoaaDoor
