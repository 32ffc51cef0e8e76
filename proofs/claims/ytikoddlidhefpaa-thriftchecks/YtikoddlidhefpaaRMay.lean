/-
  The reference's may: which values may be.
-/
import Derived.Test.YtikoddlidhefpaaRefB
import Derived.Test.YtikoddlidhefpaaRKinds
import Derived.Lib.QuietBelow
namespace Go.Proofs.Ytikoddlidhefpaa
set_option linter.unusedVariables false
set_option linter.unusedSimpArgs false
open Go.ChangeShapes Go.WideShapes Go.ChangeAt Go.RowKit Go.Deep Go.Sort

/-- what 'may' asks of a value by itself, ahead of its depth -/
def rfrontB (p : Pay) (c : Fo) : Bool := knownB p.kind && rbareB p c && rkindsB p c && fitB p.num (rbitsZ p.kind) && decide (p.text.size ≤ 1048576)
def rmidB (p : Pay) (c : Fo) : Bool := (!(p.kind == 1) || decide (0 ≤ p.num) && decide (p.num ≤ 1)) && (!(p.kind == 12) || decide (p.ids.length = flen c))
def rmayF : Fo → Int → Bool
  | .nil, _ => true
  | .node _ _ p c r, deep => (rfrontB p c && rmidB p c && risingB p.ids 0 && !(hb9 p.kind && decide (deep ≤ 0)) && rmayF c (deep - 1)) && rmayF r deep
def rmayV (p : Pay) (c : Fo) (deep : Int) : Bool := rfrontB p c && rmidB p c && risingB p.ids 0 && !(hb9 p.kind && decide (deep ≤ 0)) && rmayF c (deep - 1)
theorem rmayF_node (b o : Nat) (p : Pay) (c r : Fo) (deep : Int) : rmayF (.node b o p c r) deep = (rmayV p c deep && rmayF r deep) := rfl
def RMayC (p : Pay) (c : Fo) : Prop := ∀ (w : World) (ia : Option Addr) (ic : Nat) (la : Option Addr) (lc : Nat) (deep : Int), VIn w p c ia ic la lc → -100000 ≤ deep → deep ≤ 1000 → (flen c : Int) ≤ 1000000 →
  Calls Try.prog 30 #[val p c ia ic la lc, .int .i64 deep] w fun e w' => e = .returned (.bool (rmayV p c deep)) ∧ Below w.heap.size w w'
theorem calls_below {P : Program} {f : FuncId} {args : Array Value} {w : World} {v : Value} (h : Calls P f args w fun e w' => e = .returned v ∧ w' = w) : Calls P f args w fun e w' => e = .returned v ∧ Below w.heap.size w w' :=
  h.mono fun _ _ ⟨h1, h2⟩ => ⟨h1, by rw [h2]; exact Below.refl _ _⟩
theorem rfits_any (p : Pay) (w : World) : Calls Try.prog 50 #[.int .i64 p.num, .int .i64 (rbitsZ p.kind)] w fun e w' => e = .returned (.bool (fitB p.num (rbitsZ p.kind))) ∧ w' = w := by
  unfold rbitsZ
  split
  · exact rfits_8 _ _
  split
  · exact rfits_16 _ _
  split
  · exact rfits_32 _ _
  exact rfits_64 _ _
theorem bare_kinds {p : Pay} {c : Fo} (h1 : knownB p.kind = true) (h2 : rbareB p c = true) : p.kind = 9 ∨ p.kind = 11 ∨ p.kind = 12 ∨ flen c = 0 := by
  rw [known_true] at h1
  simp only [rbareB, rbB, Bool.and_eq_true, Bool.or_eq_true, decide_eq_true_eq] at h2
  have h3 := h2.2
  omega

/-- the calls of the front, in each later world -/
structure Front (w : World) (p : Pay) (c : Fo) (ia : Option Addr) (ic : Nat) (la : Option Addr) (lc : Nat) (t1 t2 t3 t4 : Bool) (z : Int) : Prop where
  known : ∀ x os, Calls Try.prog 47 #[.int .i64 p.kind] (grow (redrawn w x) os) fun e w'' => e = .returned (.bool t1) ∧ ∃ p : Regrown, w'' = grow (redrawn w p.d) p.os
  bare : ∀ x os, Calls Try.prog 48 #[val p c ia ic la lc] (grow (redrawn w x) os) fun e w'' => e = .returned (.bool t2) ∧ ∃ p : Regrown, w'' = grow (redrawn w p.d) p.os
  kinds : t1 = true → t2 = true → ∀ x os, Calls Try.prog 49 #[val p c ia ic la lc] (grow (redrawn w x) os) fun e w'' => e = .returned (.bool t3) ∧ ∃ p : Regrown, w'' = grow (redrawn w p.d) p.os
  bits : ∀ x os, Calls Try.prog 51 #[.int .i64 p.kind] (grow (redrawn w x) os) fun e w'' => e = .returned (.int .i64 z) ∧ ∃ p : Regrown, w'' = grow (redrawn w p.d) p.os
  fits : ∀ x os, Calls Try.prog 50 #[.int .i64 p.num, .int .i64 z] (grow (redrawn w x) os) fun e w'' => e = .returned (.bool t4) ∧ ∃ p : Regrown, w'' = grow (redrawn w p.d) p.os
theorem front_any (w : World) (p : Pay) (c : Fo) (ia : Option Addr) (ic : Nat) (la : Option Addr) (lc : Nat) (hv : VIn w p c ia ic la lc) : Front w p c ia ic la lc (knownB p.kind) (rbareB p c) (rkindsB p c) (fitB p.num (rbitsZ p.kind)) (rbitsZ p.kind) := by
  refine ⟨?_, ?_, ?_, ?_, ?_⟩
  · exact fun x os => Calls.regrown_of (calls_below (rknown_any _ _))
  · exact fun x os => Calls.regrown_of (rbare_any p c _ ia ic la lc)
  · exact fun h1 h2 x os => Calls.regrown_of (rkinds_any p c _ ia ic la lc (hv.later (below_regrown w x os)) (bare_kinds h1 h2))
  · exact fun x os => Calls.regrown_of (calls_below (rbits_any _ _))
  · exact fun x os => Calls.regrown_of (calls_below (rfits_any p _))

/-- the front's answer is told by the first that is false -/
theorem front_no {w W : World} (p : Pay) (c : Fo) (ia : Option Addr) (ic : Nat) (la : Option Addr) (lc : Nat) (deep : Int) (hv : VIn w p c ia ic la lc) (h : rfrontB p c = false) :
    Calls Try.prog 30 #[val p c ia ic la lc, .int .i64 deep] w fun e w' => e = .returned (.bool false) ∧ Below w.heap.size w w' := by
  have t1' : (p.text.size : Int) ≤ 140737488355328 := by have := hv.ok.text; omega
  have F := front_any _ p c ia ic la lc (hv.later (alloc_below w (.cells #[.int .i64 p.kind, .int .i64 p.key, .int .i64 p.elem, .int .i64 p.num, .string p.text, .slice ia p.ids.length ic, .slice la (flen c) lc] 26)))
  have HF : Hid (rfrontB p c = (knownB p.kind && rbareB p c && rkindsB p c && fitB p.num (rbitsZ p.kind) && decide (p.text.size ≤ 1048576))) := rfl
  obtain ⟨y0, y1, y2, y3, y4, y5, y6⟩ := bx_cells (Below.refl (w.heap.size + 1) (bx w p c ia ic la lc))
  have r0 := cell_regrown y0; have r1 := cell_regrown y1; have r2 := cell_regrown y2; have r3 := cell_regrown y3; have r4 := cell_regrown y4; have r5 := cell_regrown y5; have r6 := cell_regrown y6
  generalize knownB p.kind = t1 at *
  generalize rbareB p c = t2 at *
  generalize rkindsB p c = t3 at *
  generalize fitB p.num (rbitsZ p.kind) = t4 at *
  generalize rbitsZ p.kind = z at *
  have FK : True := trivial
  cases t1
  case false =>
    go_enter Try.func30, Try.ntmps30
    go_wp2_with fail
    refine wp_region_quiet_below (by kernel_rfl) (by kernel_rfl) ?_
    repeat (go_big_quiet_step (first | exact F.known _ _ | exact F.bare _ _ | exact FK _ _ | exact F.bits _ _ | exact F.fits _ _))
    refine wpQuiet_nil ?_
    intro _ hw'
    obtain ⟨⟨dq, osq⟩, hw''⟩ := hw'
    subst hw''
    have hbq := below_regrown (bx w p c ia ic la lc) dq osq
    rw [bx_size] at hbq
    generalize grow (redrawn (bx w p c ia ic la lc) dq) osq = wq at *
    go_wp2_with fail
    go_ret
    exact ⟨rfl, box_below hbq⟩
  cases t2
  case false =>
    go_enter Try.func30, Try.ntmps30
    go_wp2_with fail
    refine wp_region_quiet_below (by kernel_rfl) (by kernel_rfl) ?_
    repeat (go_big_quiet_step (first | exact F.known _ _ | exact F.bare _ _ | exact FK _ _ | exact F.bits _ _ | exact F.fits _ _))
    refine wpQuiet_nil ?_
    intro _ hw'
    obtain ⟨⟨dq, osq⟩, hw''⟩ := hw'
    subst hw''
    have hbq := below_regrown (bx w p c ia ic la lc) dq osq
    rw [bx_size] at hbq
    generalize grow (redrawn (bx w p c ia ic la lc) dq) osq = wq at *
    go_wp2_with fail
    go_ret
    exact ⟨rfl, box_below hbq⟩
  clear FK
  have FK := F.kinds rfl rfl
  cases t3
  case false =>
    go_enter Try.func30, Try.ntmps30
    go_wp2_with fail
    refine wp_region_quiet_below (by kernel_rfl) (by kernel_rfl) ?_
    repeat (go_big_quiet_step (first | exact F.known _ _ | exact F.bare _ _ | exact FK _ _ | exact F.bits _ _ | exact F.fits _ _))
    refine wpQuiet_nil ?_
    intro _ hw'
    obtain ⟨⟨dq, osq⟩, hw''⟩ := hw'
    subst hw''
    have hbq := below_regrown (bx w p c ia ic la lc) dq osq
    rw [bx_size] at hbq
    generalize grow (redrawn (bx w p c ia ic la lc) dq) osq = wq at *
    go_wp2_with fail
    go_ret
    exact ⟨rfl, box_below hbq⟩
  cases t4
  case false =>
    go_enter Try.func30, Try.ntmps30
    go_wp2_with fail
    refine wp_region_quiet_below (by kernel_rfl) (by kernel_rfl) ?_
    repeat (go_big_quiet_step (first | exact F.known _ _ | exact F.bare _ _ | exact FK _ _ | exact F.bits _ _ | exact F.fits _ _))
    refine wpQuiet_nil ?_
    intro _ hw'
    obtain ⟨⟨dq, osq⟩, hw''⟩ := hw'
    subst hw''
    have hbq := below_regrown (bx w p c ia ic la lc) dq osq
    rw [bx_size] at hbq
    generalize grow (redrawn (bx w p c ia ic la lc) dq) osq = wq at *
    go_wp2_with fail
    go_ret
    exact ⟨rfl, box_below hbq⟩
  have ht : ¬ p.text.size ≤ 1048576 := by
    intro h5
    rw [HF.out] at h
    simp [h5] at h
  have ht' : (1048576 : Int) < (p.text.size : Int) := by omega
  go_enter Try.func30, Try.ntmps30
  go_wp2_with fail
  refine wp_region_quiet_below (by kernel_rfl) (by kernel_rfl) ?_
  repeat (go_big_quiet_step (first | exact F.known _ _ | exact F.bare _ _ | exact FK _ _ | exact F.bits _ _ | exact F.fits _ _))
  refine wpQuiet_nil ?_
  intro _ hw'
  obtain ⟨⟨dq, osq⟩, hw''⟩ := hw'
  subst hw''
  have hbq := below_regrown (bx w p c ia ic la lc) dq osq
  rw [bx_size] at hbq
  generalize grow (redrawn (bx w p c ia ic la lc) dq) osq = wq at *
  go_wp2_with fail
  go_ret
  exact ⟨rfl, box_below hbq⟩
end Go.Proofs.Ytikoddlidhefpaa
