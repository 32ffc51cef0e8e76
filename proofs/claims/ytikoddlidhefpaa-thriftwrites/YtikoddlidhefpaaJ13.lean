/-
  The reference's may: which values may be.
-/
import Derived.Test.YtikoddlidhefpaaJ12
import Derived.Lib.QuietBelow
namespace Go.Proofs.Ytikoddlidhefpaa
set_option linter.unusedVariables false
set_option linter.unusedSimpArgs false
open Go.ChangeShapes Go.WideShapes Go.ChangeAt Go.RowKit Go.Deep Go.Sort

/-- what 'may' asks of a value by itself, ahead of its depth -/
def rfrontB (p : Pay) (c : Fo) : Bool := knownB p.kind && rbareB p c && rkindsB p c && fitB p.num (rbitsZ p.kind) && decide (p.text.size ≤ 1048576)
def rmidB (p : Pay) (c : Fo) : Bool := (!(p.kind == 1) || decide (0 ≤ p.num) && decide (p.num ≤ 1)) && (!(p.kind == 12) || decide (p.ids.length = flen c))
def rmayF : Fo → Int → Bool
  | .nil, _ => true
  | .node _ _ p c r, deep => (rfrontB p c && rmidB p c && risingB p.ids 0 && !(hb9 p.kind && decide (deep ≤ 0)) && rmayF c (deep - 1)) && rmayF r deep
def rmayV (p : Pay) (c : Fo) (deep : Int) : Bool := rfrontB p c && rmidB p c && risingB p.ids 0 && !(hb9 p.kind && decide (deep ≤ 0)) && rmayF c (deep - 1)
theorem rmayF_node (b o : Nat) (p : Pay) (c r : Fo) (deep : Int) : rmayF (.node b o p c r) deep = (rmayV p c deep && rmayF r deep) := rfl
def RMayC (p : Pay) (c : Fo) : Prop := ∀ (w : World) (ia : Option Addr) (ic : Nat) (la : Option Addr) (lc : Nat) (deep : Int), VIn w p c ia ic la lc → -100000 ≤ deep → deep ≤ 1000 → (flen c : Int) ≤ 1000000 →
  Calls Try.prog 30 #[val p c ia ic la lc, .int .i64 deep] w fun e w' => e = .returned (.bool (rmayV p c deep)) ∧ Below w.heap.size w w'
theorem calls_below {P : Program} {f : FuncId} {args : Array Value} {w : World} {v : Value} (h : Calls P f args w fun e w' => e = .returned v ∧ w' = w) : Calls P f args w fun e w' => e = .returned v ∧ Below w.heap.size w w' :=
  h.mono fun _ _ ⟨h1, h2⟩ => ⟨h1, by rw [h2]; exact Below.refl _ _⟩
theorem rfits_any (p : Pay) (w : World) : Calls Try.prog 50 #[.int .i64 p.num, .int .i64 (rbitsZ p.kind)] w fun e w' => e = .returned (.bool (fitB p.num (rbitsZ p.kind))) ∧ w' = w := by
  unfold rbitsZ
  split
  · exact rfits_8 _ _
  split
  · exact rfits_16 _ _
  split
  · exact rfits_32 _ _
  exact rfits_64 _ _
theorem bare_kinds {p : Pay} {c : Fo} (h1 : knownB p.kind = true) (h2 : rbareB p c = true) : p.kind = 9 ∨ p.kind = 11 ∨ p.kind = 12 ∨ flen c = 0 := by
  rw [known_true] at h1
  simp only [rbareB, rbB, Bool.and_eq_true, Bool.or_eq_true, decide_eq_true_eq] at h2
  have h3 := h2.2
  omega

/-- the calls of the front, in each later world -/
structure Front (w : World) (p : Pay) (c : Fo) (ia : Option Addr) (ic : Nat) (la : Option Addr) (lc : Nat) (t1 t2 t3 t4 : Bool) (z : Int) : Prop where
  known : ∀ x os, Calls Try.prog 47 #[.int .i64 p.kind] (grow (redrawn w x) os) fun e w'' => e = .returned (.bool t1) ∧ ∃ p : Regrown, w'' = grow (redrawn w p.d) p.os
  bare : ∀ x os, Calls Try.prog 48 #[val p c ia ic la lc] (grow (redrawn w x) os) fun e w'' => e = .returned (.bool t2) ∧ ∃ p : Regrown, w'' = grow (redrawn w p.d) p.os
  kinds : t1 = true → t2 = true → ∀ x os, Calls Try.prog 49 #[val p c ia ic la lc] (grow (redrawn w x) os) fun e w'' => e = .returned (.bool t3) ∧ ∃ p : Regrown, w'' = grow (redrawn w p.d) p.os
  bits : ∀ x os, Calls Try.prog 51 #[.int .i64 p.kind] (grow (redrawn w x) os) fun e w'' => e = .returned (.int .i64 z) ∧ ∃ p : Regrown, w'' = grow (redrawn w p.d) p.os
  fits : ∀ x os, Calls Try.prog 50 #[.int .i64 p.num, .int .i64 z] (grow (redrawn w x) os) fun e w'' => e = .returned (.bool t4) ∧ ∃ p : Regrown, w'' = grow (redrawn w p.d) p.os
theorem front_any (w : World) (p : Pay) (c : Fo) (ia : Option Addr) (ic : Nat) (la : Option Addr) (lc : Nat) (hv : VIn w p c ia ic la lc) : Front w p c ia ic la lc (knownB p.kind) (rbareB p c) (rkindsB p c) (fitB p.num (rbitsZ p.kind)) (rbitsZ p.kind) := by
  refine ⟨?_, ?_, ?_, ?_, ?_⟩
  · exact fun x os => Calls.regrown_of (calls_below (rknown_any _ _))
  · exact fun x os => Calls.regrown_of (rbare_any p c _ ia ic la lc)
  · exact fun h1 h2 x os => Calls.regrown_of (rkinds_any p c _ ia ic la lc (hv.later (below_regrown w x os)) (bare_kinds h1 h2))
  · exact fun x os => Calls.regrown_of (calls_below (rbits_any _ _))
  · exact fun x os => Calls.regrown_of (calls_below (rfits_any p _))

/-- the front's answer is told by the first that is false -/
theorem front_no {w W : World} (p : Pay) (c : Fo) (ia : Option Addr) (ic : Nat) (la : Option Addr) (lc : Nat) (deep : Int) (hv : VIn w p c ia ic la lc) (h : rfrontB p c = false) :
    Calls Try.prog 30 #[val p c ia ic la lc, .int .i64 deep] w fun e w' => e = .returned (.bool false) ∧ Below w.heap.size w w' := by
  have t1' : (p.text.size : Int) ≤ 140737488355328 := by have := hv.ok.text; omega
  have F := front_any _ p c ia ic la lc (hv.later (alloc_below w (.cells #[.int .i64 p.kind, .int .i64 p.key, .int .i64 p.elem, .int .i64 p.num, .string p.text, .slice ia p.ids.length ic, .slice la (flen c) lc] 26)))
  have HF : Hid (rfrontB p c = (knownB p.kind && rbareB p c && rkindsB p c && fitB p.num (rbitsZ p.kind) && decide (p.text.size ≤ 1048576))) := rfl
  obtain ⟨y0, y1, y2, y3, y4, y5, y6⟩ := bx_cells (Below.refl (w.heap.size + 1) (bx w p c ia ic la lc))
  have r0 := cell_regrown y0; have r1 := cell_regrown y1; have r2 := cell_regrown y2; have r3 := cell_regrown y3; have r4 := cell_regrown y4; have r5 := cell_regrown y5; have r6 := cell_regrown y6
  generalize knownB p.kind = t1 at *
  generalize rbareB p c = t2 at *
  generalize rkindsB p c = t3 at *
  generalize fitB p.num (rbitsZ p.kind) = t4 at *
  generalize rbitsZ p.kind = z at *
  have FK : True := trivial
  cases t1
  case false =>
    go_enter Try.func30, Try.ntmps30
    go_wp2_with fail
    refine wp_region_quiet_below (by kernel_rfl) (by kernel_rfl) ?_
    repeat (go_big_quiet_step (first | exact F.known _ _ | exact F.bare _ _ | exact FK _ _ | exact F.bits _ _ | exact F.fits _ _))
    refine wpQuiet_nil ?_
    intro _ hw'
    obtain ⟨⟨dq, osq⟩, hw''⟩ := hw'
    subst hw''
    have hbq := below_regrown (bx w p c ia ic la lc) dq osq
    rw [bx_size] at hbq
    generalize grow (redrawn (bx w p c ia ic la lc) dq) osq = wq at *
    go_wp2_with fail
    go_ret
    exact ⟨rfl, box_below hbq⟩
  cases t2
  case false =>
    go_enter Try.func30, Try.ntmps30
    go_wp2_with fail
    refine wp_region_quiet_below (by kernel_rfl) (by kernel_rfl) ?_
    repeat (go_big_quiet_step (first | exact F.known _ _ | exact F.bare _ _ | exact FK _ _ | exact F.bits _ _ | exact F.fits _ _))
    refine wpQuiet_nil ?_
    intro _ hw'
    obtain ⟨⟨dq, osq⟩, hw''⟩ := hw'
    subst hw''
    have hbq := below_regrown (bx w p c ia ic la lc) dq osq
    rw [bx_size] at hbq
    generalize grow (redrawn (bx w p c ia ic la lc) dq) osq = wq at *
    go_wp2_with fail
    go_ret
    exact ⟨rfl, box_below hbq⟩
  clear FK
  have FK := F.kinds rfl rfl
  cases t3
  case false =>
    go_enter Try.func30, Try.ntmps30
    go_wp2_with fail
    refine wp_region_quiet_below (by kernel_rfl) (by kernel_rfl) ?_
    repeat (go_big_quiet_step (first | exact F.known _ _ | exact F.bare _ _ | exact FK _ _ | exact F.bits _ _ | exact F.fits _ _))
    refine wpQuiet_nil ?_
    intro _ hw'
    obtain ⟨⟨dq, osq⟩, hw''⟩ := hw'
    subst hw''
    have hbq := below_regrown (bx w p c ia ic la lc) dq osq
    rw [bx_size] at hbq
    generalize grow (redrawn (bx w p c ia ic la lc) dq) osq = wq at *
    go_wp2_with fail
    go_ret
    exact ⟨rfl, box_below hbq⟩
  cases t4
  case false =>
    go_enter Try.func30, Try.ntmps30
    go_wp2_with fail
    refine wp_region_quiet_below (by kernel_rfl) (by kernel_rfl) ?_
    repeat (go_big_quiet_step (first | exact F.known _ _ | exact F.bare _ _ | exact FK _ _ | exact F.bits _ _ | exact F.fits _ _))
    refine wpQuiet_nil ?_
    intro _ hw'
    obtain ⟨⟨dq, osq⟩, hw''⟩ := hw'
    subst hw''
    have hbq := below_regrown (bx w p c ia ic la lc) dq osq
    rw [bx_size] at hbq
    generalize grow (redrawn (bx w p c ia ic la lc) dq) osq = wq at *
    go_wp2_with fail
    go_ret
    exact ⟨rfl, box_below hbq⟩
  have ht : ¬ p.text.size ≤ 1048576 := by
    intro h5
    rw [HF.out] at h
    simp [h5] at h
  have ht' : (1048576 : Int) < (p.text.size : Int) := by omega
  go_enter Try.func30, Try.ntmps30
  go_wp2_with fail
  refine wp_region_quiet_below (by kernel_rfl) (by kernel_rfl) ?_
  repeat (go_big_quiet_step (first | exact F.known _ _ | exact F.bare _ _ | exact FK _ _ | exact F.bits _ _ | exact F.fits _ _))
  refine wpQuiet_nil ?_
  intro _ hw'
  obtain ⟨⟨dq, osq⟩, hw''⟩ := hw'
  subst hw''
  have hbq := below_regrown (bx w p c ia ic la lc) dq osq
  rw [bx_size] at hbq
  generalize grow (redrawn (bx w p c ia ic la lc) dq) osq = wq at *
  go_wp2_with fail
  go_ret
  exact ⟨rfl, box_below hbq⟩
end Go.Proofs.Ytikoddlidhefpaa

/-
  The reference's may, whole.
-/
namespace Go.Proofs.Ytikoddlidhefpaa
set_option linter.unusedVariables false
set_option linter.unusedSimpArgs false
open Go.ChangeShapes Go.WideShapes Go.ChangeAt Go.RowKit Go.Deep Go.Sort

def RMayD (p : Pay) (c : Fo) : Prop := ∀ (w : World) (ia : Option Addr) (ic : Nat) (la : Option Addr) (lc : Nat) (deep : Int), VIn w p c ia ic la lc → 0 ≤ deep → deep ≤ 1000 →
  Calls Try.prog 30 #[val p c ia ic la lc, .int .i64 deep] w fun e w' => e = .returned (.bool (rmayV p c deep)) ∧ Below w.heap.size w w'

set_option maxRecDepth 10000 in
set_option maxHeartbeats 4000000 in
theorem rmay_m1 (p : Pay) (c : Fo) (ih : ∀ x ∈ elems c, RMayD x.1 x.2) (w : World) (ia : Option Addr) (ic : Nat) (la : Option Addr) (lc : Nat) (deep : Int) (hv : VIn w p c ia ic la lc) (hd0 : 0 ≤ deep) (hd1 : deep ≤ 1000) (hf : rfrontB p c = true) (hk : p.kind = 1) (hn : p.num < 0) :
    Calls Try.prog 30 #[val p c ia ic la lc, .int .i64 deep] w fun e w' => e = .returned (.bool (rmayV p c deep)) ∧ Below w.heap.size w w' := by
  have HK : Hid _ := hk
  clear hk
  have t1' : (p.text.size : Int) ≤ 140737488355328 := by have := hv.ok.text; omega
  have t2' : (p.ids.length : Int) ≤ 140737488355328 := by have := hv.ok.ids; omega
  have t3' : (flen c : Int) ≤ 140737488355328 := by have := hv.len; omega
  have F := front_any _ p c ia ic la lc (hv.later (alloc_below w (.cells #[.int .i64 p.kind, .int .i64 p.key, .int .i64 p.elem, .int .i64 p.num, .string p.text, .slice ia p.ids.length ic, .slice la (flen c) lc] 26)))
  have HV0 : Hid (rmayV p c deep = (rmidB p c && risingB p.ids 0 && !(hb9 p.kind && decide (deep ≤ 0)) && rmayF c (deep - 1))) := by show _ = _; simp [rmayV, hf]
  simp only [rfrontB, Bool.and_eq_true, decide_eq_true_eq] at hf
  obtain ⟨⟨⟨⟨f1, f2⟩, f3⟩, f4⟩, f5⟩ := hf
  have HC : Hid (p.kind = 9 ∨ p.kind = 11 ∨ p.kind = 12 ∨ flen c = 0) := bare_kinds f1 f2
  have f5' : (p.text.size : Int) ≤ 1048576 := by omega
  rw [f1, f2, f3, f4] at F
  clear f1 f2 f3 f4 f5
  have FK := F.kinds rfl rfl
  generalize rbitsZ p.kind = z at *
  obtain ⟨y0, y1, y2, y3, y4, y5, y6⟩ := bx_cells (Below.refl (w.heap.size + 1) (bx w p c ia ic la lc))
  have r0 := cell_regrown y0; have r1 := cell_regrown y1; have r2 := cell_regrown y2; have r3 := cell_regrown y3; have r4 := cell_regrown y4; have r5 := cell_regrown y5; have r6 := cell_regrown y6
  go_enter Try.func30, Try.ntmps30
  go_wp2_with fail
  refine wp_region_quiet_below (by kernel_rfl) (by kernel_rfl) ?_
  repeat (go_big_quiet_step (first | exact F.known _ _ | exact F.bare _ _ | exact FK _ _ | exact F.bits _ _ | exact F.fits _ _))
  refine wpQuiet_nil ?_
  intro _ hw'
  obtain ⟨⟨dq, osq⟩, hw''⟩ := hw'
  subst hw''
  have hbq := below_regrown (bx w p c ia ic la lc) dq osq
  rw [bx_size] at hbq
  generalize grow (redrawn (bx w p c ia ic la lc) dq) osq = wq at *
  clear r0 r1 r2 r3 r4 r5 r6 y0 y1 y2 y3 y4 y5 y6 FK F
  obtain ⟨y0, y1, y2, y3, y4, y5, y6⟩ := bx_cells hbq
  rw [HK.out] at y0
  have HN : Hid (rmayV p c deep = false) := by show _ = _; rw [HV0.out]; simp [rmidB, HK.out, show ¬ 0 ≤ p.num by omega]
  go_wp2_with fail
  go_ret
  exact ⟨by rw [HN.out]; rfl, box_below hbq⟩
set_option maxRecDepth 10000 in
set_option maxHeartbeats 4000000 in
theorem rmay_m2 (p : Pay) (c : Fo) (ih : ∀ x ∈ elems c, RMayD x.1 x.2) (w : World) (ia : Option Addr) (ic : Nat) (la : Option Addr) (lc : Nat) (deep : Int) (hv : VIn w p c ia ic la lc) (hd0 : 0 ≤ deep) (hd1 : deep ≤ 1000) (hf : rfrontB p c = true) (hk : p.kind = 1) (hn0 : 0 ≤ p.num) (hn : 1 < p.num) :
    Calls Try.prog 30 #[val p c ia ic la lc, .int .i64 deep] w fun e w' => e = .returned (.bool (rmayV p c deep)) ∧ Below w.heap.size w w' := by
  have HK : Hid _ := hk
  clear hk
  have t1' : (p.text.size : Int) ≤ 140737488355328 := by have := hv.ok.text; omega
  have t2' : (p.ids.length : Int) ≤ 140737488355328 := by have := hv.ok.ids; omega
  have t3' : (flen c : Int) ≤ 140737488355328 := by have := hv.len; omega
  have F := front_any _ p c ia ic la lc (hv.later (alloc_below w (.cells #[.int .i64 p.kind, .int .i64 p.key, .int .i64 p.elem, .int .i64 p.num, .string p.text, .slice ia p.ids.length ic, .slice la (flen c) lc] 26)))
  have HV0 : Hid (rmayV p c deep = (rmidB p c && risingB p.ids 0 && !(hb9 p.kind && decide (deep ≤ 0)) && rmayF c (deep - 1))) := by show _ = _; simp [rmayV, hf]
  simp only [rfrontB, Bool.and_eq_true, decide_eq_true_eq] at hf
  obtain ⟨⟨⟨⟨f1, f2⟩, f3⟩, f4⟩, f5⟩ := hf
  have HC : Hid (p.kind = 9 ∨ p.kind = 11 ∨ p.kind = 12 ∨ flen c = 0) := bare_kinds f1 f2
  have f5' : (p.text.size : Int) ≤ 1048576 := by omega
  rw [f1, f2, f3, f4] at F
  clear f1 f2 f3 f4 f5
  have FK := F.kinds rfl rfl
  generalize rbitsZ p.kind = z at *
  obtain ⟨y0, y1, y2, y3, y4, y5, y6⟩ := bx_cells (Below.refl (w.heap.size + 1) (bx w p c ia ic la lc))
  have r0 := cell_regrown y0; have r1 := cell_regrown y1; have r2 := cell_regrown y2; have r3 := cell_regrown y3; have r4 := cell_regrown y4; have r5 := cell_regrown y5; have r6 := cell_regrown y6
  go_enter Try.func30, Try.ntmps30
  go_wp2_with fail
  refine wp_region_quiet_below (by kernel_rfl) (by kernel_rfl) ?_
  repeat (go_big_quiet_step (first | exact F.known _ _ | exact F.bare _ _ | exact FK _ _ | exact F.bits _ _ | exact F.fits _ _))
  refine wpQuiet_nil ?_
  intro _ hw'
  obtain ⟨⟨dq, osq⟩, hw''⟩ := hw'
  subst hw''
  have hbq := below_regrown (bx w p c ia ic la lc) dq osq
  rw [bx_size] at hbq
  generalize grow (redrawn (bx w p c ia ic la lc) dq) osq = wq at *
  clear r0 r1 r2 r3 r4 r5 r6 y0 y1 y2 y3 y4 y5 y6 FK F
  obtain ⟨y0, y1, y2, y3, y4, y5, y6⟩ := bx_cells hbq
  rw [HK.out] at y0
  have HN : Hid (rmayV p c deep = false) := by show _ = _; rw [HV0.out]; simp [rmidB, HK.out, show ¬ p.num ≤ 1 by omega]
  go_wp2_with fail
  go_ret
  exact ⟨by rw [HN.out]; rfl, box_below hbq⟩
set_option maxRecDepth 10000 in
set_option maxHeartbeats 4000000 in
theorem rmay_m3 (p : Pay) (c : Fo) (ih : ∀ x ∈ elems c, RMayD x.1 x.2) (w : World) (ia : Option Addr) (ic : Nat) (la : Option Addr) (lc : Nat) (deep : Int) (hv : VIn w p c ia ic la lc) (hd0 : 0 ≤ deep) (hd1 : deep ≤ 1000) (hf : rfrontB p c = true) (hk : p.kind = 12) (hl : ¬ p.ids.length = flen c) :
    Calls Try.prog 30 #[val p c ia ic la lc, .int .i64 deep] w fun e w' => e = .returned (.bool (rmayV p c deep)) ∧ Below w.heap.size w w' := by
  have HK : Hid _ := hk
  clear hk
  have t1' : (p.text.size : Int) ≤ 140737488355328 := by have := hv.ok.text; omega
  have t2' : (p.ids.length : Int) ≤ 140737488355328 := by have := hv.ok.ids; omega
  have t3' : (flen c : Int) ≤ 140737488355328 := by have := hv.len; omega
  have F := front_any _ p c ia ic la lc (hv.later (alloc_below w (.cells #[.int .i64 p.kind, .int .i64 p.key, .int .i64 p.elem, .int .i64 p.num, .string p.text, .slice ia p.ids.length ic, .slice la (flen c) lc] 26)))
  have HV0 : Hid (rmayV p c deep = (rmidB p c && risingB p.ids 0 && !(hb9 p.kind && decide (deep ≤ 0)) && rmayF c (deep - 1))) := by show _ = _; simp [rmayV, hf]
  simp only [rfrontB, Bool.and_eq_true, decide_eq_true_eq] at hf
  obtain ⟨⟨⟨⟨f1, f2⟩, f3⟩, f4⟩, f5⟩ := hf
  have HC : Hid (p.kind = 9 ∨ p.kind = 11 ∨ p.kind = 12 ∨ flen c = 0) := bare_kinds f1 f2
  have f5' : (p.text.size : Int) ≤ 1048576 := by omega
  rw [f1, f2, f3, f4] at F
  clear f1 f2 f3 f4 f5
  have FK := F.kinds rfl rfl
  generalize rbitsZ p.kind = z at *
  obtain ⟨y0, y1, y2, y3, y4, y5, y6⟩ := bx_cells (Below.refl (w.heap.size + 1) (bx w p c ia ic la lc))
  have r0 := cell_regrown y0; have r1 := cell_regrown y1; have r2 := cell_regrown y2; have r3 := cell_regrown y3; have r4 := cell_regrown y4; have r5 := cell_regrown y5; have r6 := cell_regrown y6
  go_enter Try.func30, Try.ntmps30
  go_wp2_with fail
  refine wp_region_quiet_below (by kernel_rfl) (by kernel_rfl) ?_
  repeat (go_big_quiet_step (first | exact F.known _ _ | exact F.bare _ _ | exact FK _ _ | exact F.bits _ _ | exact F.fits _ _))
  refine wpQuiet_nil ?_
  intro _ hw'
  obtain ⟨⟨dq, osq⟩, hw''⟩ := hw'
  subst hw''
  have hbq := below_regrown (bx w p c ia ic la lc) dq osq
  rw [bx_size] at hbq
  generalize grow (redrawn (bx w p c ia ic la lc) dq) osq = wq at *
  clear r0 r1 r2 r3 r4 r5 r6 y0 y1 y2 y3 y4 y5 y6 FK F
  obtain ⟨y0, y1, y2, y3, y4, y5, y6⟩ := bx_cells hbq
  have hl' : ¬ (p.ids.length : Int) = (flen c : Int) := by omega
  rw [HK.out] at y0
  have HN : Hid (rmayV p c deep = false) := by show _ = _; rw [HV0.out]; simp [rmidB, HK.out, hl]
  go_wp2_with fail
  go_ret
  exact ⟨by rw [HN.out]; rfl, box_below hbq⟩
set_option maxRecDepth 10000 in
set_option maxHeartbeats 4000000 in
theorem rmay_y1 (p : Pay) (c : Fo) (ih : ∀ x ∈ elems c, RMayD x.1 x.2) (w : World) (ia : Option Addr) (ic : Nat) (la : Option Addr) (lc : Nat) (deep : Int) (hv : VIn w p c ia ic la lc) (hd0 : 0 ≤ deep) (hd1 : deep ≤ 1000) (hf : rfrontB p c = true) (hk : p.kind = 1) (hn0 : 0 ≤ p.num) (hn : p.num ≤ 1) :
    Calls Try.prog 30 #[val p c ia ic la lc, .int .i64 deep] w fun e w' => e = .returned (.bool (rmayV p c deep)) ∧ Below w.heap.size w w' := by
  have HK : Hid _ := hk
  clear hk
  have t1' : (p.text.size : Int) ≤ 140737488355328 := by have := hv.ok.text; omega
  have t2' : (p.ids.length : Int) ≤ 140737488355328 := by have := hv.ok.ids; omega
  have t3' : (flen c : Int) ≤ 140737488355328 := by have := hv.len; omega
  have F := front_any _ p c ia ic la lc (hv.later (alloc_below w (.cells #[.int .i64 p.kind, .int .i64 p.key, .int .i64 p.elem, .int .i64 p.num, .string p.text, .slice ia p.ids.length ic, .slice la (flen c) lc] 26)))
  have HV0 : Hid (rmayV p c deep = (rmidB p c && risingB p.ids 0 && !(hb9 p.kind && decide (deep ≤ 0)) && rmayF c (deep - 1))) := by show _ = _; simp [rmayV, hf]
  simp only [rfrontB, Bool.and_eq_true, decide_eq_true_eq] at hf
  obtain ⟨⟨⟨⟨f1, f2⟩, f3⟩, f4⟩, f5⟩ := hf
  have HC : Hid (p.kind = 9 ∨ p.kind = 11 ∨ p.kind = 12 ∨ flen c = 0) := bare_kinds f1 f2
  have f5' : (p.text.size : Int) ≤ 1048576 := by omega
  rw [f1, f2, f3, f4] at F
  clear f1 f2 f3 f4 f5
  have FK := F.kinds rfl rfl
  generalize rbitsZ p.kind = z at *
  obtain ⟨y0, y1, y2, y3, y4, y5, y6⟩ := bx_cells (Below.refl (w.heap.size + 1) (bx w p c ia ic la lc))
  have r0 := cell_regrown y0; have r1 := cell_regrown y1; have r2 := cell_regrown y2; have r3 := cell_regrown y3; have r4 := cell_regrown y4; have r5 := cell_regrown y5; have r6 := cell_regrown y6
  go_enter Try.func30, Try.ntmps30
  go_wp2_with fail
  refine wp_region_quiet_below (by kernel_rfl) (by kernel_rfl) ?_
  repeat (go_big_quiet_step (first | exact F.known _ _ | exact F.bare _ _ | exact FK _ _ | exact F.bits _ _ | exact F.fits _ _))
  refine wpQuiet_nil ?_
  intro _ hw'
  obtain ⟨⟨dq, osq⟩, hw''⟩ := hw'
  subst hw''
  have hbq := below_regrown (bx w p c ia ic la lc) dq osq
  rw [bx_size] at hbq
  generalize grow (redrawn (bx w p c ia ic la lc) dq) osq = wq at *
  clear r0 r1 r2 r3 r4 r5 r6 y0 y1 y2 y3 y4 y5 y6 FK F
  obtain ⟨y0, y1, y2, y3, y4, y5, y6⟩ := bx_cells hbq
  have HV : Hid (rmayV p c deep = (risingB p.ids 0 && !(hb9 p.kind && decide (deep ≤ 0)) && rmayF c (deep - 1))) := by show _ = _; rw [HV0.out]; simp [rmidB, HK.out, hn0, hn]
  clear HV0
  have y0' := y0
  rw [HK.out] at y0'
  clear y0
  go_wp2_with fail
  clear y0' y1 y2 y3 y4 y5 y6
  go_loopw [5, 6] (fun av iv wr => ∃ (i : Nat) (x : Int), i ≤ p.ids.length ∧ iv = .int .i64 i ∧ av = .int .i64 x ∧ Hid (risingB (p.ids.drop i) x = risingB p.ids 0) ∧ Below (w.heap.size + 1) (bx w p c ia ic la lc) wr) (fun _ iv _ => p.ids.length - (intOf iv).toNat)
  case atStart => exact ⟨0, 0, Nat.zero_le _, rfl, rfl, rfl, hbq⟩
  case round =>
    clear hbq
    obtain ⟨i, x, hi, rfl, rfl, H, hb⟩ := hrel
    obtain ⟨y0, y1, y2, y3, y4, y5, y6⟩ := bx_cells hb
    by_cases hlt : i < p.ids.length
    · have hlt' : (i : Int) < (p.ids.length : Int) := by omega
      obtain ⟨g, off, rfl, k1⟩ := ids_at (hv.ids.later (box_below hb)) hlt
      have HS : Hid ((decide (x < p.ids.getD i 0) && decide (p.ids.getD i 0 ≤ 32767) && risingB (p.ids.drop (i + 1)) (p.ids.getD i 0)) = risingB p.ids 0) := by
        show _ = _
        rw [← H.out, drop_cons (i := i) hlt]
        rfl
      clear H
      generalize p.ids.getD i 0 = z at *
      by_cases hz : x < z
      · by_cases hz2 : z ≤ 32767
        · have HN : Hid (risingB (p.ids.drop (i + 1)) z = risingB p.ids 0) := by show _ = _; rw [← HS.out]; simp [hz, hz2]
          go_wp2_with fail
          go_roundw
          case rel => exact ⟨i + 1, z, by omega, by go_num, rfl, HN, hb⟩
          case measure => simp [intOf]; omega
        · have HN : Hid (rmayV p c deep = false) := by show _ = _; rw [HV.out, ← HS.out]; simp [hz2]
          have hz3 : 32767 < z := by omega
          go_wp2_with fail
          go_ret
          exact ⟨by rw [HN.out]; rfl, box_below hb⟩
      · have HN : Hid (rmayV p c deep = false) := by show _ = _; rw [HV.out, ← HS.out]; simp [hz]
        have hz3 : z ≤ x := by omega
        go_wp2_with fail
        go_ret
        exact ⟨by rw [HN.out]; rfl, box_below hb⟩
    · have hlt' : (p.ids.length : Int) ≤ (i : Int) := by omega
      have HR : Hid (risingB p.ids 0 = true) := by show _ = _; rw [← H.out, List.drop_eq_nil_of_le (by omega)]; rfl
      have HV2 : Hid (rmayV p c deep = (!(hb9 p.kind && decide (deep ≤ 0)) && rmayF c (deep - 1))) := by show _ = _; rw [HV.out, HR.out]; simp
      clear H HR HV
      have N := rholds_any p.kind wr
      obtain ⟨t, HT⟩ : ∃ t, Hid (hb9 p.kind = t) := ⟨_, rfl⟩
      have HT' : decide (9 ≤ p.kind) = t := HT.out
      rw [HT'] at N
      clear HT'
      rw [HK.out] at N y0
      go_wp2_with fail
      refine N.mono ?_
      rintro e wx ⟨rfl, hwx⟩
      obtain rfl := hwx.symm
      clear N
      have fin : ∀ (P : Prop), P → P := fun _ h => h
      by_cases hd : t = true ∧ deep ≤ 0
      · obtain ⟨rfl, hd2⟩ := hd
        have HN : Hid (rmayV p c deep = false) := by show _ = _; rw [HV2.out, HT.out]; simp [hd2]
        go_wp2_with fail
        go_ret
        exact ⟨by rw [HN.out]; rfl, box_below hb⟩
      have HM : Hid (rmayV p c deep = rmayF c (deep - 1)) := by
        show _ = _
        rw [HV2.out, HT.out]
        cases t
        · simp
        · have : ¬ deep ≤ 0 := fun h => hd ⟨rfl, h⟩
          simp [this]
      clear HV2
      obtain ⟨D, hD1, hD2, HD⟩ : ∃ D : Int, -1 ≤ D ∧ D ≤ 1000 ∧ Hid (deep - 1 = D) := ⟨deep - 1, by omega, by omega, rfl⟩
      rw [HD.out] at HM
      have hsub : deep - 1 = D := HD.out
      cases t
      · go_wp2_with fail
        go_loopw [7] (fun iv wr => iv = .int .i64 0 ∧ Below (w.heap.size + 1) (bx w p c ia ic la lc) wr) (fun _ _ => 0)
        case atStart => exact ⟨rfl, hb⟩
        case round =>
          clear y0 y1 y2 y3 y4 y5 y6 hb hlt hlt' hi
          obtain ⟨rfl, hb⟩ := hrel
          obtain ⟨y0, y1, y2, y3, y4, y5, y6⟩ := bx_cells hb
          have h0 : flen c = 0 := by have := HC.out; have h9 : ¬ 9 ≤ p.kind := by simpa [hb9] using HT.out
                                     omega
          have HN : Hid (rmayV p c deep = true) := by
            show _ = _
            rw [HM.out]
            cases c with
            | nil => rfl
            | node _ _ _ _ r => simp [flen] at h0
          rw [h0] at y6
          clear h0
          go_wp2_with fail
          go_ret
          exact ⟨by rw [HN.out]; rfl, box_below hb⟩
      · have hd2 : 0 < deep := by
          rcases Int.lt_or_le 0 deep with h | h
          · exact h
          · exact absurd ⟨rfl, h⟩ hd
        go_wp2_with fail
        go_loopw [7] (fun iv wr => ∃ i : Nat, i ≤ flen c ∧ iv = .int .i64 i ∧ Hid (rmayF (fdrop c i) D = rmayF c D) ∧ Below (w.heap.size + 1) (bx w p c ia ic la lc) wr) (fun iv _ => flen c - (intOf iv).toNat)
        case atStart => exact ⟨0, Nat.zero_le _, rfl, by cases c <;> rfl, hb⟩
        case round =>
          clear y0 y1 y2 y3 y4 y5 y6 hb hlt hlt' hi
          obtain ⟨i, hi, rfl, H, hb⟩ := hrel
          obtain ⟨y0, y1, y2, y3, y4, y5, y6⟩ := bx_cells hb
          by_cases hlt : i < flen c
          · have hlt' : (i : Int) < (flen c : Int) := by omega
            obtain ⟨q, d, b, o, ja, jc, na, nc, bt, ot, _, hm, ef, rfl, hbl, hv', d0, d1, d2, d3, d4, d5, d6⟩ := row_at (hv.list.later (box_below hb)) hlt
            have K := ih _ hm _ ja jc na nc D hv' (by omega) (by omega)
            simp only at K
            have HS : Hid ((rmayV q d D && rmayF (fdrop c (i + 1)) D) = rmayF c D) := by show _ = _; rw [← H.out, ef, rmayF_node]
            clear H ef
            generalize rmayV q d D = s at *
            go_wp2_with fail
            refine K.mono ?_
            rintro e wz ⟨rfl, hwz⟩
            have hb2 := hb.trans (hwz.mono (box_size hb))
            clear K hwz
            cases s
            · have HN : Hid (rmayV p c deep = false) := by show _ = _; rw [HM.out, ← HS.out]; simp
              go_wp2_with fail
              go_ret
              exact ⟨by rw [HN.out]; rfl, box_below hb2⟩
            · have HN : Hid (rmayF (fdrop c (i + 1)) D = rmayF c D) := by show _ = _; rw [← HS.out]; simp
              go_wp2_with fail
              go_roundw
              case rel => exact ⟨i + 1, by omega, by go_num, HN, hb2⟩
              case measure => simp [intOf]; omega
          · have hlt' : (flen c : Int) ≤ (i : Int) := by omega
            have HN : Hid (rmayV p c deep = true) := by
              show _ = _
              rw [HM.out, ← H.out, show i = flen c by omega, fdrop_end]
              rfl
            go_wp2_with fail
            go_ret
            exact ⟨by rw [HN.out]; rfl, box_below hb⟩
set_option maxRecDepth 10000 in
set_option maxHeartbeats 4000000 in
theorem rmay_y12 (p : Pay) (c : Fo) (ih : ∀ x ∈ elems c, RMayD x.1 x.2) (w : World) (ia : Option Addr) (ic : Nat) (la : Option Addr) (lc : Nat) (deep : Int) (hv : VIn w p c ia ic la lc) (hd0 : 0 ≤ deep) (hd1 : deep ≤ 1000) (hf : rfrontB p c = true) (hk : p.kind = 12) (hl : p.ids.length = flen c) :
    Calls Try.prog 30 #[val p c ia ic la lc, .int .i64 deep] w fun e w' => e = .returned (.bool (rmayV p c deep)) ∧ Below w.heap.size w w' := by
  have HK : Hid _ := hk
  clear hk
  have HL : Hid (p.ids.length = flen c) := hl
  clear hl
  have t1' : (p.text.size : Int) ≤ 140737488355328 := by have := hv.ok.text; omega
  have t2' : (p.ids.length : Int) ≤ 140737488355328 := by have := hv.ok.ids; omega
  have t3' : (flen c : Int) ≤ 140737488355328 := by have := hv.len; omega
  have F := front_any _ p c ia ic la lc (hv.later (alloc_below w (.cells #[.int .i64 p.kind, .int .i64 p.key, .int .i64 p.elem, .int .i64 p.num, .string p.text, .slice ia p.ids.length ic, .slice la (flen c) lc] 26)))
  have HV0 : Hid (rmayV p c deep = (rmidB p c && risingB p.ids 0 && !(hb9 p.kind && decide (deep ≤ 0)) && rmayF c (deep - 1))) := by show _ = _; simp [rmayV, hf]
  simp only [rfrontB, Bool.and_eq_true, decide_eq_true_eq] at hf
  obtain ⟨⟨⟨⟨f1, f2⟩, f3⟩, f4⟩, f5⟩ := hf
  have HC : Hid (p.kind = 9 ∨ p.kind = 11 ∨ p.kind = 12 ∨ flen c = 0) := bare_kinds f1 f2
  have f5' : (p.text.size : Int) ≤ 1048576 := by omega
  rw [f1, f2, f3, f4] at F
  clear f1 f2 f3 f4 f5
  have FK := F.kinds rfl rfl
  generalize rbitsZ p.kind = z at *
  obtain ⟨y0, y1, y2, y3, y4, y5, y6⟩ := bx_cells (Below.refl (w.heap.size + 1) (bx w p c ia ic la lc))
  have r0 := cell_regrown y0; have r1 := cell_regrown y1; have r2 := cell_regrown y2; have r3 := cell_regrown y3; have r4 := cell_regrown y4; have r5 := cell_regrown y5; have r6 := cell_regrown y6
  go_enter Try.func30, Try.ntmps30
  go_wp2_with fail
  refine wp_region_quiet_below (by kernel_rfl) (by kernel_rfl) ?_
  repeat (go_big_quiet_step (first | exact F.known _ _ | exact F.bare _ _ | exact FK _ _ | exact F.bits _ _ | exact F.fits _ _))
  refine wpQuiet_nil ?_
  intro _ hw'
  obtain ⟨⟨dq, osq⟩, hw''⟩ := hw'
  subst hw''
  have hbq := below_regrown (bx w p c ia ic la lc) dq osq
  rw [bx_size] at hbq
  generalize grow (redrawn (bx w p c ia ic la lc) dq) osq = wq at *
  clear r0 r1 r2 r3 r4 r5 r6 y0 y1 y2 y3 y4 y5 y6 FK F
  obtain ⟨y0, y1, y2, y3, y4, y5, y6⟩ := bx_cells hbq
  have HV : Hid (rmayV p c deep = (risingB p.ids 0 && !(hb9 p.kind && decide (deep ≤ 0)) && rmayF c (deep - 1))) := by show _ = _; rw [HV0.out]; simp [rmidB, HK.out, HL.out]
  clear HV0
  have hl' : (p.ids.length : Int) = (flen c : Int) := by have := HL.out; omega
  have y0' := y0
  rw [HK.out] at y0'
  clear y0
  go_wp2_with fail
  clear y0' y1 y2 y3 y4 y5 y6
  go_loopw [5, 6] (fun av iv wr => ∃ (i : Nat) (x : Int), i ≤ p.ids.length ∧ iv = .int .i64 i ∧ av = .int .i64 x ∧ Hid (risingB (p.ids.drop i) x = risingB p.ids 0) ∧ Below (w.heap.size + 1) (bx w p c ia ic la lc) wr) (fun _ iv _ => p.ids.length - (intOf iv).toNat)
  case atStart => exact ⟨0, 0, Nat.zero_le _, rfl, rfl, rfl, hbq⟩
  case round =>
    clear hbq
    obtain ⟨i, x, hi, rfl, rfl, H, hb⟩ := hrel
    obtain ⟨y0, y1, y2, y3, y4, y5, y6⟩ := bx_cells hb
    by_cases hlt : i < p.ids.length
    · have hlt' : (i : Int) < (p.ids.length : Int) := by omega
      obtain ⟨g, off, rfl, k1⟩ := ids_at (hv.ids.later (box_below hb)) hlt
      have HS : Hid ((decide (x < p.ids.getD i 0) && decide (p.ids.getD i 0 ≤ 32767) && risingB (p.ids.drop (i + 1)) (p.ids.getD i 0)) = risingB p.ids 0) := by
        show _ = _
        rw [← H.out, drop_cons (i := i) hlt]
        rfl
      clear H
      generalize p.ids.getD i 0 = z at *
      by_cases hz : x < z
      · by_cases hz2 : z ≤ 32767
        · have HN : Hid (risingB (p.ids.drop (i + 1)) z = risingB p.ids 0) := by show _ = _; rw [← HS.out]; simp [hz, hz2]
          go_wp2_with fail
          go_roundw
          case rel => exact ⟨i + 1, z, by omega, by go_num, rfl, HN, hb⟩
          case measure => simp [intOf]; omega
        · have HN : Hid (rmayV p c deep = false) := by show _ = _; rw [HV.out, ← HS.out]; simp [hz2]
          have hz3 : 32767 < z := by omega
          go_wp2_with fail
          go_ret
          exact ⟨by rw [HN.out]; rfl, box_below hb⟩
      · have HN : Hid (rmayV p c deep = false) := by show _ = _; rw [HV.out, ← HS.out]; simp [hz]
        have hz3 : z ≤ x := by omega
        go_wp2_with fail
        go_ret
        exact ⟨by rw [HN.out]; rfl, box_below hb⟩
    · have hlt' : (p.ids.length : Int) ≤ (i : Int) := by omega
      have HR : Hid (risingB p.ids 0 = true) := by show _ = _; rw [← H.out, List.drop_eq_nil_of_le (by omega)]; rfl
      have HV2 : Hid (rmayV p c deep = (!(hb9 p.kind && decide (deep ≤ 0)) && rmayF c (deep - 1))) := by show _ = _; rw [HV.out, HR.out]; simp
      clear H HR HV
      have N := rholds_any p.kind wr
      obtain ⟨t, HT⟩ : ∃ t, Hid (hb9 p.kind = t) := ⟨_, rfl⟩
      have HT' : decide (9 ≤ p.kind) = t := HT.out
      rw [HT'] at N
      clear HT'
      rw [HK.out] at N y0
      go_wp2_with fail
      refine N.mono ?_
      rintro e wx ⟨rfl, hwx⟩
      obtain rfl := hwx.symm
      clear N
      have fin : ∀ (P : Prop), P → P := fun _ h => h
      by_cases hd : t = true ∧ deep ≤ 0
      · obtain ⟨rfl, hd2⟩ := hd
        have HN : Hid (rmayV p c deep = false) := by show _ = _; rw [HV2.out, HT.out]; simp [hd2]
        go_wp2_with fail
        go_ret
        exact ⟨by rw [HN.out]; rfl, box_below hb⟩
      have HM : Hid (rmayV p c deep = rmayF c (deep - 1)) := by
        show _ = _
        rw [HV2.out, HT.out]
        cases t
        · simp
        · have : ¬ deep ≤ 0 := fun h => hd ⟨rfl, h⟩
          simp [this]
      clear HV2
      obtain ⟨D, hD1, hD2, HD⟩ : ∃ D : Int, -1 ≤ D ∧ D ≤ 1000 ∧ Hid (deep - 1 = D) := ⟨deep - 1, by omega, by omega, rfl⟩
      rw [HD.out] at HM
      have hsub : deep - 1 = D := HD.out
      cases t
      · go_wp2_with fail
        go_loopw [7] (fun iv wr => iv = .int .i64 0 ∧ Below (w.heap.size + 1) (bx w p c ia ic la lc) wr) (fun _ _ => 0)
        case atStart => exact ⟨rfl, hb⟩
        case round =>
          clear y0 y1 y2 y3 y4 y5 y6 hb hlt hlt' hi
          obtain ⟨rfl, hb⟩ := hrel
          obtain ⟨y0, y1, y2, y3, y4, y5, y6⟩ := bx_cells hb
          have h0 : flen c = 0 := by have := HC.out; have h9 : ¬ 9 ≤ p.kind := by simpa [hb9] using HT.out
                                     omega
          have HN : Hid (rmayV p c deep = true) := by
            show _ = _
            rw [HM.out]
            cases c with
            | nil => rfl
            | node _ _ _ _ r => simp [flen] at h0
          rw [h0] at y6
          clear h0
          go_wp2_with fail
          go_ret
          exact ⟨by rw [HN.out]; rfl, box_below hb⟩
      · have hd2 : 0 < deep := by
          rcases Int.lt_or_le 0 deep with h | h
          · exact h
          · exact absurd ⟨rfl, h⟩ hd
        go_wp2_with fail
        go_loopw [7] (fun iv wr => ∃ i : Nat, i ≤ flen c ∧ iv = .int .i64 i ∧ Hid (rmayF (fdrop c i) D = rmayF c D) ∧ Below (w.heap.size + 1) (bx w p c ia ic la lc) wr) (fun iv _ => flen c - (intOf iv).toNat)
        case atStart => exact ⟨0, Nat.zero_le _, rfl, by cases c <;> rfl, hb⟩
        case round =>
          clear y0 y1 y2 y3 y4 y5 y6 hb hlt hlt' hi
          obtain ⟨i, hi, rfl, H, hb⟩ := hrel
          obtain ⟨y0, y1, y2, y3, y4, y5, y6⟩ := bx_cells hb
          by_cases hlt : i < flen c
          · have hlt' : (i : Int) < (flen c : Int) := by omega
            obtain ⟨q, d, b, o, ja, jc, na, nc, bt, ot, _, hm, ef, rfl, hbl, hv', d0, d1, d2, d3, d4, d5, d6⟩ := row_at (hv.list.later (box_below hb)) hlt
            have K := ih _ hm _ ja jc na nc D hv' (by omega) (by omega)
            simp only at K
            have HS : Hid ((rmayV q d D && rmayF (fdrop c (i + 1)) D) = rmayF c D) := by show _ = _; rw [← H.out, ef, rmayF_node]
            clear H ef
            generalize rmayV q d D = s at *
            go_wp2_with fail
            refine K.mono ?_
            rintro e wz ⟨rfl, hwz⟩
            have hb2 := hb.trans (hwz.mono (box_size hb))
            clear K hwz
            cases s
            · have HN : Hid (rmayV p c deep = false) := by show _ = _; rw [HM.out, ← HS.out]; simp
              go_wp2_with fail
              go_ret
              exact ⟨by rw [HN.out]; rfl, box_below hb2⟩
            · have HN : Hid (rmayF (fdrop c (i + 1)) D = rmayF c D) := by show _ = _; rw [← HS.out]; simp
              go_wp2_with fail
              go_roundw
              case rel => exact ⟨i + 1, by omega, by go_num, HN, hb2⟩
              case measure => simp [intOf]; omega
          · have hlt' : (flen c : Int) ≤ (i : Int) := by omega
            have HN : Hid (rmayV p c deep = true) := by
              show _ = _
              rw [HM.out, ← H.out, show i = flen c by omega, fdrop_end]
              rfl
            go_wp2_with fail
            go_ret
            exact ⟨by rw [HN.out]; rfl, box_below hb⟩
set_option maxRecDepth 10000 in
set_option maxHeartbeats 4000000 in
theorem rmay_yo (p : Pay) (c : Fo) (ih : ∀ x ∈ elems c, RMayD x.1 x.2) (w : World) (ia : Option Addr) (ic : Nat) (la : Option Addr) (lc : Nat) (deep : Int) (hv : VIn w p c ia ic la lc) (hd0 : 0 ≤ deep) (hd1 : deep ≤ 1000) (hf : rfrontB p c = true) (hk1 : ¬ p.kind = 1) (hk : ¬ p.kind = 12) :
    Calls Try.prog 30 #[val p c ia ic la lc, .int .i64 deep] w fun e w' => e = .returned (.bool (rmayV p c deep)) ∧ Below w.heap.size w w' := by
  have b1 : Hid ((p.kind == 1) = false) := by show _ = _; simp [hk1]
  have b2 : Hid ((p.kind == 12) = false) := by show _ = _; simp [hk]
  have t1' : (p.text.size : Int) ≤ 140737488355328 := by have := hv.ok.text; omega
  have t2' : (p.ids.length : Int) ≤ 140737488355328 := by have := hv.ok.ids; omega
  have t3' : (flen c : Int) ≤ 140737488355328 := by have := hv.len; omega
  have F := front_any _ p c ia ic la lc (hv.later (alloc_below w (.cells #[.int .i64 p.kind, .int .i64 p.key, .int .i64 p.elem, .int .i64 p.num, .string p.text, .slice ia p.ids.length ic, .slice la (flen c) lc] 26)))
  have HV0 : Hid (rmayV p c deep = (rmidB p c && risingB p.ids 0 && !(hb9 p.kind && decide (deep ≤ 0)) && rmayF c (deep - 1))) := by show _ = _; simp [rmayV, hf]
  simp only [rfrontB, Bool.and_eq_true, decide_eq_true_eq] at hf
  obtain ⟨⟨⟨⟨f1, f2⟩, f3⟩, f4⟩, f5⟩ := hf
  have HC : Hid (p.kind = 9 ∨ p.kind = 11 ∨ p.kind = 12 ∨ flen c = 0) := bare_kinds f1 f2
  have f5' : (p.text.size : Int) ≤ 1048576 := by omega
  rw [f1, f2, f3, f4] at F
  clear f1 f2 f3 f4 f5
  have FK := F.kinds rfl rfl
  generalize rbitsZ p.kind = z at *
  obtain ⟨y0, y1, y2, y3, y4, y5, y6⟩ := bx_cells (Below.refl (w.heap.size + 1) (bx w p c ia ic la lc))
  have r0 := cell_regrown y0; have r1 := cell_regrown y1; have r2 := cell_regrown y2; have r3 := cell_regrown y3; have r4 := cell_regrown y4; have r5 := cell_regrown y5; have r6 := cell_regrown y6
  go_enter Try.func30, Try.ntmps30
  go_wp2_with fail
  refine wp_region_quiet_below (by kernel_rfl) (by kernel_rfl) ?_
  repeat (go_big_quiet_step (first | exact F.known _ _ | exact F.bare _ _ | exact FK _ _ | exact F.bits _ _ | exact F.fits _ _))
  refine wpQuiet_nil ?_
  intro _ hw'
  obtain ⟨⟨dq, osq⟩, hw''⟩ := hw'
  subst hw''
  have hbq := below_regrown (bx w p c ia ic la lc) dq osq
  rw [bx_size] at hbq
  generalize grow (redrawn (bx w p c ia ic la lc) dq) osq = wq at *
  clear r0 r1 r2 r3 r4 r5 r6 y0 y1 y2 y3 y4 y5 y6 FK F
  obtain ⟨y0, y1, y2, y3, y4, y5, y6⟩ := bx_cells hbq
  have HV : Hid (rmayV p c deep = (risingB p.ids 0 && !(hb9 p.kind && decide (deep ≤ 0)) && rmayF c (deep - 1))) := by show _ = _; rw [HV0.out]; simp [rmidB, b1.out, b2.out]
  clear HV0
  go_wp2_with fail
  clear y0 y1 y2 y3 y4 y5 y6
  go_loopw [5, 6] (fun av iv wr => ∃ (i : Nat) (x : Int), i ≤ p.ids.length ∧ iv = .int .i64 i ∧ av = .int .i64 x ∧ Hid (risingB (p.ids.drop i) x = risingB p.ids 0) ∧ Below (w.heap.size + 1) (bx w p c ia ic la lc) wr) (fun _ iv _ => p.ids.length - (intOf iv).toNat)
  case atStart => exact ⟨0, 0, Nat.zero_le _, rfl, rfl, rfl, hbq⟩
  case round =>
    clear hbq
    obtain ⟨i, x, hi, rfl, rfl, H, hb⟩ := hrel
    obtain ⟨y0, y1, y2, y3, y4, y5, y6⟩ := bx_cells hb
    by_cases hlt : i < p.ids.length
    · have hlt' : (i : Int) < (p.ids.length : Int) := by omega
      obtain ⟨g, off, rfl, k1⟩ := ids_at (hv.ids.later (box_below hb)) hlt
      have HS : Hid ((decide (x < p.ids.getD i 0) && decide (p.ids.getD i 0 ≤ 32767) && risingB (p.ids.drop (i + 1)) (p.ids.getD i 0)) = risingB p.ids 0) := by
        show _ = _
        rw [← H.out, drop_cons (i := i) hlt]
        rfl
      clear H
      generalize p.ids.getD i 0 = z at *
      by_cases hz : x < z
      · by_cases hz2 : z ≤ 32767
        · have HN : Hid (risingB (p.ids.drop (i + 1)) z = risingB p.ids 0) := by show _ = _; rw [← HS.out]; simp [hz, hz2]
          go_wp2_with fail
          go_roundw
          case rel => exact ⟨i + 1, z, by omega, by go_num, rfl, HN, hb⟩
          case measure => simp [intOf]; omega
        · have HN : Hid (rmayV p c deep = false) := by show _ = _; rw [HV.out, ← HS.out]; simp [hz2]
          have hz3 : 32767 < z := by omega
          go_wp2_with fail
          go_ret
          exact ⟨by rw [HN.out]; rfl, box_below hb⟩
      · have HN : Hid (rmayV p c deep = false) := by show _ = _; rw [HV.out, ← HS.out]; simp [hz]
        have hz3 : z ≤ x := by omega
        go_wp2_with fail
        go_ret
        exact ⟨by rw [HN.out]; rfl, box_below hb⟩
    · have hlt' : (p.ids.length : Int) ≤ (i : Int) := by omega
      have HR : Hid (risingB p.ids 0 = true) := by show _ = _; rw [← H.out, List.drop_eq_nil_of_le (by omega)]; rfl
      have HV2 : Hid (rmayV p c deep = (!(hb9 p.kind && decide (deep ≤ 0)) && rmayF c (deep - 1))) := by show _ = _; rw [HV.out, HR.out]; simp
      clear H HR HV
      have N := rholds_any p.kind wr
      obtain ⟨t, HT⟩ : ∃ t, Hid (hb9 p.kind = t) := ⟨_, rfl⟩
      have HT' : decide (9 ≤ p.kind) = t := HT.out
      rw [HT'] at N
      clear HT'
      go_wp2_with fail
      refine N.mono ?_
      rintro e wx ⟨rfl, hwx⟩
      obtain rfl := hwx.symm
      clear N
      have fin : ∀ (P : Prop), P → P := fun _ h => h
      by_cases hd : t = true ∧ deep ≤ 0
      · obtain ⟨rfl, hd2⟩ := hd
        have HN : Hid (rmayV p c deep = false) := by show _ = _; rw [HV2.out, HT.out]; simp [hd2]
        go_wp2_with fail
        go_ret
        exact ⟨by rw [HN.out]; rfl, box_below hb⟩
      have HM : Hid (rmayV p c deep = rmayF c (deep - 1)) := by
        show _ = _
        rw [HV2.out, HT.out]
        cases t
        · simp
        · have : ¬ deep ≤ 0 := fun h => hd ⟨rfl, h⟩
          simp [this]
      clear HV2
      obtain ⟨D, hD1, hD2, HD⟩ : ∃ D : Int, -1 ≤ D ∧ D ≤ 1000 ∧ Hid (deep - 1 = D) := ⟨deep - 1, by omega, by omega, rfl⟩
      rw [HD.out] at HM
      have hsub : deep - 1 = D := HD.out
      cases t
      · go_wp2_with fail
        go_loopw [7] (fun iv wr => iv = .int .i64 0 ∧ Below (w.heap.size + 1) (bx w p c ia ic la lc) wr) (fun _ _ => 0)
        case atStart => exact ⟨rfl, hb⟩
        case round =>
          clear y0 y1 y2 y3 y4 y5 y6 hb hlt hlt' hi
          obtain ⟨rfl, hb⟩ := hrel
          obtain ⟨y0, y1, y2, y3, y4, y5, y6⟩ := bx_cells hb
          have h0 : flen c = 0 := by have := HC.out; have h9 : ¬ 9 ≤ p.kind := by simpa [hb9] using HT.out
                                     omega
          have HN : Hid (rmayV p c deep = true) := by
            show _ = _
            rw [HM.out]
            cases c with
            | nil => rfl
            | node _ _ _ _ r => simp [flen] at h0
          rw [h0] at y6
          clear h0
          go_wp2_with fail
          go_ret
          exact ⟨by rw [HN.out]; rfl, box_below hb⟩
      · have hd2 : 0 < deep := by
          rcases Int.lt_or_le 0 deep with h | h
          · exact h
          · exact absurd ⟨rfl, h⟩ hd
        go_wp2_with fail
        go_loopw [7] (fun iv wr => ∃ i : Nat, i ≤ flen c ∧ iv = .int .i64 i ∧ Hid (rmayF (fdrop c i) D = rmayF c D) ∧ Below (w.heap.size + 1) (bx w p c ia ic la lc) wr) (fun iv _ => flen c - (intOf iv).toNat)
        case atStart => exact ⟨0, Nat.zero_le _, rfl, by cases c <;> rfl, hb⟩
        case round =>
          clear y0 y1 y2 y3 y4 y5 y6 hb hlt hlt' hi
          obtain ⟨i, hi, rfl, H, hb⟩ := hrel
          obtain ⟨y0, y1, y2, y3, y4, y5, y6⟩ := bx_cells hb
          by_cases hlt : i < flen c
          · have hlt' : (i : Int) < (flen c : Int) := by omega
            obtain ⟨q, d, b, o, ja, jc, na, nc, bt, ot, _, hm, ef, rfl, hbl, hv', d0, d1, d2, d3, d4, d5, d6⟩ := row_at (hv.list.later (box_below hb)) hlt
            have K := ih _ hm _ ja jc na nc D hv' (by omega) (by omega)
            simp only at K
            have HS : Hid ((rmayV q d D && rmayF (fdrop c (i + 1)) D) = rmayF c D) := by show _ = _; rw [← H.out, ef, rmayF_node]
            clear H ef
            generalize rmayV q d D = s at *
            go_wp2_with fail
            refine K.mono ?_
            rintro e wz ⟨rfl, hwz⟩
            have hb2 := hb.trans (hwz.mono (box_size hb))
            clear K hwz
            cases s
            · have HN : Hid (rmayV p c deep = false) := by show _ = _; rw [HM.out, ← HS.out]; simp
              go_wp2_with fail
              go_ret
              exact ⟨by rw [HN.out]; rfl, box_below hb2⟩
            · have HN : Hid (rmayF (fdrop c (i + 1)) D = rmayF c D) := by show _ = _; rw [← HS.out]; simp
              go_wp2_with fail
              go_roundw
              case rel => exact ⟨i + 1, by omega, by go_num, HN, hb2⟩
              case measure => simp [intOf]; omega
          · have hlt' : (flen c : Int) ≤ (i : Int) := by omega
            have HN : Hid (rmayV p c deep = true) := by
              show _ = _
              rw [HM.out, ← H.out, show i = flen c by omega, fdrop_end]
              rfl
            go_wp2_with fail
            go_ret
            exact ⟨by rw [HN.out]; rfl, box_below hb⟩
theorem rmay_step (p : Pay) (c : Fo) (ih : ∀ x ∈ elems c, RMayD x.1 x.2) : RMayD p c := by
  intro w ia ic la lc deep hv hd0 hd1
  by_cases hf : rfrontB p c = true
  · by_cases h1 : p.kind = 1
    · by_cases h2 : p.num < 0
      · exact rmay_m1 p c ih w ia ic la lc deep hv hd0 hd1 hf h1 h2
      by_cases h3 : 1 < p.num
      · exact rmay_m2 p c ih w ia ic la lc deep hv hd0 hd1 hf h1 (by omega) h3
      exact rmay_y1 p c ih w ia ic la lc deep hv hd0 hd1 hf h1 (by omega) (by omega)
    by_cases h2 : p.kind = 12
    · by_cases h3 : p.ids.length = flen c
      · exact rmay_y12 p c ih w ia ic la lc deep hv hd0 hd1 hf h2 h3
      · exact rmay_m3 p c ih w ia ic la lc deep hv hd0 hd1 hf h2 h3
    exact rmay_yo p c ih w ia ic la lc deep hv hd0 hd1 hf h1 h2
  · have hf' : rfrontB p c = false := by simpa using hf
    have e : rmayV p c deep = false := by simp [rmayV, hf']
    rw [e]
    exact front_no (W := w) p c ia ic la lc deep hv hf'
theorem rmay_any (p : Pay) (c : Fo) : RMayD p c := every_value rmay_step p c
theorem rMay_any (p : Pay) (c : Fo) (w : World) (ia : Option Addr) (ic : Nat) (la : Option Addr) (lc : Nat) (hv : VIn w p c ia ic la lc) :
    Calls Try.prog 15 #[val p c ia ic la lc] w fun e w' => e = .returned (.bool (rmayV p c 32)) ∧ Below w.heap.size w w' := by
  have M := rmay_any p c (bx w p c ia ic la lc) ia ic la lc 32 (hv.later (alloc_below _ _)) (by omega) (by omega)
  have hb0 : Below w.heap.size w (bx w p c ia ic la lc) := alloc_below _ _
  generalize rmayV p c 32 = t at *
  go_enter Try.func15, Try.ntmps15
  go_wp2_with fail
  refine M.mono ?_
  rintro e wx ⟨rfl, hwx⟩
  have hb := hb0.trans (hwx.mono hb0.size)
  go_wp2_with fail
  go_ret
  exact ⟨rfl, hb⟩
end Go.Proofs.Ytikoddlidhefpaa

/-
  thrift's and the reference's answers to which values may be are one.
-/
namespace Go.Proofs.Ytikoddlidhefpaa
set_option linter.unusedVariables false
set_option linter.unusedSimpArgs false
open Go.ChangeShapes Go.WideShapes Go.ChangeAt Go.RowKit Go.Deep

theorem sameF_nilM (c : Fo) : sameF c .nil = decide (flen c = 0) := by
  cases c with
  | nil => rfl
  | node _ _ _ _ r => simp [sameF, flen]
theorem zero_list : ({ data := #[] } : ByteArray).toList = [] := by unfold ByteArray.toList ByteArray.toList.loop; rfl
theorem bare_eq (p : Pay) (c : Fo) (hk : knownB p.kind = true) : bareB p c = rbareB p c := by
  rw [known_true] at hk
  have hkk : p.kind = 1 ∨ p.kind = 3 ∨ p.kind = 4 ∨ p.kind = 5 ∨ p.kind = 6 ∨ p.kind = 7 ∨ p.kind = 8 ∨ p.kind = 9 ∨ p.kind = 11 ∨ p.kind = 12 := by omega
  obtain ⟨k, y, z, n, x, l⟩ := p
  simp only at hkk
  rw [Bool.eq_iff_iff]
  have hl : l.length = 0 ↔ l = [] := List.length_eq_zero_iff
  rcases hkk with rfl | rfl | rfl | rfl | rfl | rfl | rfl | rfl | rfl | rfl <;>
    (simp [bareB, rbareB, rbB, clrP, clrF, sameP, zeroP, sameF_nilM, zero_list, flen, sameF]) <;> (first | (intros; constructor <;> (intro h; simp_all)) | (constructor <;> (intro h; simp_all)) | omega)

theorem loop_len (x : ByteArray) : ∀ (n i : Nat) (r : List UInt8), x.size - i = n → (ByteArray.toList.loop x i r).length = r.length + n
  | 0, i, r, h => by
    unfold ByteArray.toList.loop
    rw [if_neg (by omega)]
    simp
  | n + 1, i, r, h => by
    unfold ByteArray.toList.loop
    rw [if_pos (by omega), loop_len x n (i + 1) _ (by omega)]
    simp
    omega
theorem toList_len (x : ByteArray) : x.toList.length = x.size := by
  unfold ByteArray.toList
  rw [loop_len x x.size 0 [] (by omega)]
  simp

theorem rkF_9 (y e : Int) : ∀ (c : Fo) (i : Nat), rkF 9 y e i c = kindsBy [e] i c
  | .nil, _ => rfl
  | .node _ _ p _ r, i => by
    unfold rkF kindsBy
    rw [rkF_9 y e r (i + 1)]
    simp [Nat.mod_one]
    rfl
theorem rkF_11 (y e : Int) : ∀ (c : Fo) (i : Nat), rkF 11 y e i c = kindsBy [y, e] i c
  | .nil, _ => rfl
  | .node _ _ p _ r, i => by
    unfold rkF kindsBy
    rw [rkF_11 y e r (i + 1)]
    rcases Nat.mod_two_eq_zero_or_one i with h | h
    · simp [h]
      rfl
    · simp [h]
      rfl
theorem rkF_12 (y e : Int) : ∀ (c : Fo) (i : Nat), rkF 12 y e i c = true
  | .nil, _ => rfl
  | .node _ _ p _ r, i => by
    unfold rkF
    rw [rkF_12 y e r (i + 1)]
    simp
theorem rkF_0 (k y e : Int) (c : Fo) (h : flen c = 0) : rkF k y e 0 c = true := by
  cases c with
  | nil => rfl
  | node _ _ _ _ r => simp [flen] at h

theorem order_eq (p : Pay) (c : Fo) : inOrderB p c = (rfrontB p c && rmidB p c && risingB p.ids 0) := by
  cases hk : knownB p.kind
  · have h1 : kindB p c = false := by
      have hn : ¬ (p.kind = 1 ∨ (3 ≤ p.kind ∧ p.kind ≤ 9) ∨ p.kind = 11 ∨ p.kind = 12) := by rw [← known_true, hk]; simp
      unfold kindB
      rw [if_neg (by omega), if_neg (by omega), if_neg (by omega), if_neg (by omega), if_neg (by omega), if_neg (by omega)]
    simp [inOrderB, h1, rfrontB, hk]
  · unfold inOrderB
    rw [bare_eq p c hk]
    cases hb : rbareB p c
    · simp [rfrontB, hb]
    · have hx : p.text.toList = [] → p.text.size = 0 := by intro h; rw [← toList_len, h]; rfl
      have hc0 := bare_kinds hk hb
      simp only [rbareB, rbB, Bool.and_eq_true, Bool.or_eq_true, decide_eq_true_eq, beq_iff_eq] at hb
      rw [known_true] at hk
      have hkk : p.kind = 1 ∨ p.kind = 3 ∨ p.kind = 4 ∨ p.kind = 5 ∨ p.kind = 6 ∨ p.kind = 7 ∨ p.kind = 8 ∨ p.kind = 9 ∨ p.kind = 11 ∨ p.kind = 12 := by omega
      obtain ⟨k, y, z, n, x, l⟩ := p
      simp only at hkk hb hx hc0
      have hbb : rbareB ⟨k, y, z, n, x, l⟩ c = true := by
        simp only [rbareB, rbB, Bool.and_eq_true, Bool.or_eq_true, decide_eq_true_eq, beq_iff_eq]
        exact hb
      obtain ⟨⟨⟨⟨⟨q1, q2⟩, q3⟩, q4⟩, q5⟩, q6⟩ := hb
      rcases hkk with rfl | rfl | rfl | rfl | rfl | rfl | rfl | rfl | rfl | rfl
      · -- a truth
        have e1 : x.size = 0 := hx (by simpa using q2)
        have e2 : l = [] := List.length_eq_zero_iff.1 (by simpa using q5)
        have e3 : flen c = 0 := by simpa using q6
        subst e2
        rw [Bool.eq_iff_iff]
        simp [kindB, rfrontB, hbb, rkindsB, rkF_0 _ _ _ _ e3, rbitsZ, fitB, rmidB, e1, risingB, knownB]
        omega
      · have e1 : x.size = 0 := hx (by simpa using q2)
        have e2 : l = [] := List.length_eq_zero_iff.1 (by simpa using q5)
        have e3 : flen c = 0 := by simpa using q6
        subst e2
        rw [Bool.eq_iff_iff]
        simp [kindB, rfrontB, hbb, rkindsB, rkF_0 _ _ _ _ e3, rbitsZ, bitsZ, fitB, rmidB, e1, risingB, knownB]
      · have e1 : x.size = 0 := hx (by simpa using q2)
        have e2 : l = [] := List.length_eq_zero_iff.1 (by simpa using q5)
        have e3 : flen c = 0 := by simpa using q6
        subst e2
        rw [Bool.eq_iff_iff]
        simp [kindB, rfrontB, hbb, rkindsB, rkF_0 _ _ _ _ e3, rbitsZ, bitsZ, fitB, rmidB, e1, risingB, knownB]
      · have e1 : x.size = 0 := hx (by simpa using q2)
        have e2 : l = [] := List.length_eq_zero_iff.1 (by simpa using q5)
        have e3 : flen c = 0 := by simpa using q6
        subst e2
        rw [Bool.eq_iff_iff]
        simp [kindB, rfrontB, hbb, rkindsB, rkF_0 _ _ _ _ e3, rbitsZ, bitsZ, fitB, rmidB, e1, risingB, knownB]
      · have e1 : x.size = 0 := hx (by simpa using q2)
        have e2 : l = [] := List.length_eq_zero_iff.1 (by simpa using q5)
        have e3 : flen c = 0 := by simpa using q6
        subst e2
        rw [Bool.eq_iff_iff]
        simp [kindB, rfrontB, hbb, rkindsB, rkF_0 _ _ _ _ e3, rbitsZ, bitsZ, fitB, rmidB, e1, risingB, knownB]
      · have e1 : x.size = 0 := hx (by simpa using q2)
        have e2 : l = [] := List.length_eq_zero_iff.1 (by simpa using q5)
        have e3 : flen c = 0 := by simpa using q6
        subst e2
        rw [Bool.eq_iff_iff]
        simp [kindB, rfrontB, hbb, rkindsB, rkF_0 _ _ _ _ e3, rbitsZ, bitsZ, fitB, rmidB, e1, risingB, knownB]
      · have e2 : l = [] := List.length_eq_zero_iff.1 (by simpa using q5)
        have e3 : flen c = 0 := by simpa using q6
        subst e2
        rw [Bool.eq_iff_iff]
        simp [kindB, rfrontB, hbb, rkindsB, rkF_0 _ _ _ _ e3, rbitsZ, bitsZ, fitB, rmidB, risingB, knownB]
      · have e1 : x.size = 0 := hx (by simpa using q2)
        have e2 : l = [] := List.length_eq_zero_iff.1 (by simpa using q5)
        subst e2
        have k9 : knownB 9 = true := by decide
        rw [Bool.eq_iff_iff]
        simp [kindB, rfrontB, hbb, rkindsB, rkF_9, rbitsZ, bitsZ, fitB, rmidB, e1, risingB, k9]
        exact ⟨fun h => ⟨⟨h.2.1, h.1⟩, h.2.2⟩, fun h => ⟨h.1.2, h.1.1, h.2⟩⟩
      · have e1 : x.size = 0 := hx (by simpa using q2)
        have e2 : l = [] := List.length_eq_zero_iff.1 (by simpa using q5)
        subst e2
        have k11 : knownB 11 = true := by decide
        rw [Bool.eq_iff_iff]
        by_cases h0 : flen c = 0
        · simp [kindB, mapB, rfrontB, hbb, rkindsB, rkF_11, rbitsZ, bitsZ, fitB, rmidB, e1, risingB, k11, h0]
        · simp [kindB, mapB, rfrontB, hbb, rkindsB, rkF_11, rbitsZ, bitsZ, fitB, rmidB, e1, risingB, k11, h0]
          exact ⟨fun h => ⟨⟨⟨⟨h.2.1.2, h.2.1.1⟩, h.1.1⟩, h.1.2⟩, h.2.2⟩, fun h => ⟨⟨h.1.1.2, h.1.2⟩, ⟨h.1.1.1.2, h.1.1.1.1⟩, h.2⟩⟩
      · have e1 : x.size = 0 := hx (by simpa using q2)
        rw [Bool.eq_iff_iff]
        have k12 : knownB 12 = true := by decide
        simp [kindB, rfrontB, hbb, rkindsB, rkF_12, rbitsZ, bitsZ, fitB, rmidB, e1, risingB, k12]
        exact fun _ => ⟨fun h => h.symm, fun h => h.symm⟩

theorem may_eq (p : Pay) (c : Fo) : ∀ d : Int, 0 ≤ d → rmayV p c d = mayV p c d := by
  refine every_value (C := fun p c => ∀ d : Int, 0 ≤ d → rmayV p c d = mayV p c d) (fun p c ih => ?_) p c
  intro d hd
  have hF : ∀ (f : Fo) (e : Int), 0 ≤ e → (∀ x ∈ elems f, ∀ d : Int, 0 ≤ d → rmayV x.1 x.2 d = mayV x.1 x.2 d) → rmayF f e = mayF f e := by
    intro f
    induction f with
    | nil => intros; rfl
    | node b o q g r _ ihr =>
      intro e he hx
      rw [rmayF_node, mayF_node, hx (q, g) (by simp [elems]) e he, ihr e he (fun x h => hx x (by simp [elems, h]))]
  unfold rmayV mayV
  rw [order_eq]
  cases hfr : rfrontB p c
  · simp
  cases hmid : rmidB p c
  · simp
  cases hri : risingB p.ids 0
  · simp
  have hk : knownB p.kind = true := by simp only [rfrontB, Bool.and_eq_true] at hfr; exact hfr.1.1.1.1
  have hbr : rbareB p c = true := by simp only [rfrontB, Bool.and_eq_true] at hfr; exact hfr.1.1.1.2
  have hkk := hk
  rw [known_true] at hkk
  cases hn : nestsB p.kind
  · have h9 : hb9 p.kind = false := by
      have : ¬ (p.kind = 9 ∨ p.kind = 11 ∨ p.kind = 12) := by rw [← nests_true, hn]; simp
      simp [hb9]; omega
    have hc : flen c = 0 := by
      have h1 := bare_kinds hk hbr
      have : ¬ (p.kind = 9 ∨ p.kind = 11 ∨ p.kind = 12) := by rw [← nests_true, hn]; simp
      omega
    cases c with
    | nil => simp [rm, hn, h9, hd, rmayF, mayF]
    | node _ _ _ _ r => simp [flen] at hc
  · have h9 : hb9 p.kind = true := by
      have : p.kind = 9 ∨ p.kind = 11 ∨ p.kind = 12 := by rw [← nests_true]; exact hn
      simp [hb9]; omega
    have hrm : rm p d = d - 1 := by simp [rm, hn]
    rw [hrm]
    by_cases h0 : d ≤ 0
    · have h1 : ¬ 0 ≤ d - 1 := by omega
      simp [h9, h0, h1]
      intro h; omega
    · have h1 : 0 ≤ d - 1 := by omega
      rw [hF c (d - 1) h1 (fun x hx => ih x hx)]
      simp [h9, h0, h1]
      intro h; omega
end Go.Proofs.Ytikoddlidhefpaa
