/-
  The reference's bare.
-/
import Derived.Test.YtikoddlidhefpaaJ7
namespace Go.Proofs.Ytikoddlidhefpaa
open Go.ChangeShapes Go.WideShapes Go.ChangeAt Go.RowKit Go.Deep
set_option linter.unusedSimpArgs false
set_option linter.unusedVariables false

def rbB (k y e n : Int) (x : List UInt8) (L M : Nat) : Bool :=
  (k == 1 || decide (3 ≤ k) && decide (k ≤ 7) || n == 0) && (k == 8 || decide (x = [])) && (k == 9 || k == 11 || e == 0) && (k == 11 || y == 0) && (k == 12 || decide (L = 0)) && (decide (9 ≤ k) || decide (M = 0))
def rbareB (p : Pay) (c : Fo) : Bool := rbB p.kind p.key p.elem p.num p.text.toList p.ids.length (flen c)

set_option maxHeartbeats 4000000 in
theorem rbare_1 (k y e n : Int) (x : ByteArray) (L M : Nat) (w : World) (ia : Option Addr) (ic : Nat) (la : Option Addr) (lc : Nat) (h1 : k = 1) :
    Calls Try.prog 48 #[.agg #[.int .i64 k, .int .i64 y, .int .i64 e, .int .i64 n, .string x, .slice ia L ic, .slice la M lc]] w fun e' w' => e' = .returned (.bool (rbB k y e n x.toList L M)) ∧ Below w.heap.size w w' := by
  subst h1
  have N := fun W => rholds_any 1 W
  by_cases zt : x.toList = []
  case neg =>
    have HB : rbB 1 y e n x.toList L M = false := by simp [rbB, zt]
    rw [HB]
    clear HB
    go_enter Try.func48, Try.ntmps48
    go_wp2_with (go_at_call 31; refine (N _).mono ?_; rintro e wx ⟨rfl, hwx⟩; obtain rfl := hwx.symm)
    go_ret
    exact ⟨by simp <;> omega, alloc_below _ _⟩
  by_cases ze : e = 0
  case neg =>
    have HB : rbB 1 y e n x.toList L M = false := by simp [rbB, ze]
    rw [HB]
    clear HB
    go_enter Try.func48, Try.ntmps48
    go_wp2_with (go_at_call 31; refine (N _).mono ?_; rintro e wx ⟨rfl, hwx⟩; obtain rfl := hwx.symm)
    go_ret
    exact ⟨by simp <;> omega, alloc_below _ _⟩
  by_cases zy : y = 0
  case neg =>
    have HB : rbB 1 y e n x.toList L M = false := by simp [rbB, zy]
    rw [HB]
    clear HB
    go_enter Try.func48, Try.ntmps48
    go_wp2_with (go_at_call 31; refine (N _).mono ?_; rintro e wx ⟨rfl, hwx⟩; obtain rfl := hwx.symm)
    go_ret
    exact ⟨by simp <;> omega, alloc_below _ _⟩
  by_cases zi : L = 0
  case neg =>
    have HB : rbB 1 y e n x.toList L M = false := by simp [rbB, zi]
    have zi' : ¬ (L : Int) = 0 := by omega
    rw [HB]
    clear HB
    go_enter Try.func48, Try.ntmps48
    go_wp2_with (go_at_call 31; refine (N _).mono ?_; rintro e wx ⟨rfl, hwx⟩; obtain rfl := hwx.symm)
    go_ret
    exact ⟨by simp <;> omega, alloc_below _ _⟩
  by_cases zl : M = 0
  case neg =>
    have HB : rbB 1 y e n x.toList L M = false := by simp [rbB, zl]
    have zl' : ¬ (M : Int) = 0 := by omega
    rw [HB]
    clear HB
    go_enter Try.func48, Try.ntmps48
    go_wp2_with (go_at_call 31; refine (N _).mono ?_; rintro e wx ⟨rfl, hwx⟩; obtain rfl := hwx.symm)
    go_ret
    exact ⟨by simp <;> omega, alloc_below _ _⟩
  have HB : rbB 1 y e n x.toList L M = true := by simp [rbB, zt, ze, zy, zi, zl]
  subst zi
  subst zl
  rw [HB]
  clear HB
  go_enter Try.func48, Try.ntmps48
  go_wp2_with (go_at_call 31; refine (N _).mono ?_; rintro e wx ⟨rfl, hwx⟩; obtain rfl := hwx.symm)
  go_ret
  exact ⟨by simp <;> omega, alloc_below _ _⟩
set_option maxHeartbeats 4000000 in
theorem rbare_37 (k y e n : Int) (x : ByteArray) (L M : Nat) (w : World) (ia : Option Addr) (ic : Nat) (la : Option Addr) (lc : Nat) (h1 : ¬ k = 1) (h3 : 3 ≤ k) (h7 : k ≤ 7) (h8 : ¬ k = 8) (h9 : ¬ k = 9) (h11 : ¬ k = 11) (h12 : ¬ k = 12) (hh : k < 9) :
    Calls Try.prog 48 #[.agg #[.int .i64 k, .int .i64 y, .int .i64 e, .int .i64 n, .string x, .slice ia L ic, .slice la M lc]] w fun e' w' => e' = .returned (.bool (rbB k y e n x.toList L M)) ∧ Below w.heap.size w w' := by
  have N := fun W => rholds_any k W
  by_cases zt : x.toList = []
  case neg =>
    have HB : rbB k y e n x.toList L M = false := by simp [rbB, h1, h3, h7, h8, h9, h11, h12, hh, show ¬ 9 ≤ k by omega, zt]
    rw [HB]
    clear HB
    go_enter Try.func48, Try.ntmps48
    go_wp2_with (go_at_call 31; refine (N _).mono ?_; rintro e wx ⟨rfl, hwx⟩; obtain rfl := hwx.symm)
    go_ret
    exact ⟨by simp <;> omega, alloc_below _ _⟩
  by_cases ze : e = 0
  case neg =>
    have HB : rbB k y e n x.toList L M = false := by simp [rbB, h1, h3, h7, h8, h9, h11, h12, hh, show ¬ 9 ≤ k by omega, ze]
    rw [HB]
    clear HB
    go_enter Try.func48, Try.ntmps48
    go_wp2_with (go_at_call 31; refine (N _).mono ?_; rintro e wx ⟨rfl, hwx⟩; obtain rfl := hwx.symm)
    go_ret
    exact ⟨by simp <;> omega, alloc_below _ _⟩
  by_cases zy : y = 0
  case neg =>
    have HB : rbB k y e n x.toList L M = false := by simp [rbB, h1, h3, h7, h8, h9, h11, h12, hh, show ¬ 9 ≤ k by omega, zy]
    rw [HB]
    clear HB
    go_enter Try.func48, Try.ntmps48
    go_wp2_with (go_at_call 31; refine (N _).mono ?_; rintro e wx ⟨rfl, hwx⟩; obtain rfl := hwx.symm)
    go_ret
    exact ⟨by simp <;> omega, alloc_below _ _⟩
  by_cases zi : L = 0
  case neg =>
    have HB : rbB k y e n x.toList L M = false := by simp [rbB, h1, h3, h7, h8, h9, h11, h12, hh, show ¬ 9 ≤ k by omega, zi]
    have zi' : ¬ (L : Int) = 0 := by omega
    rw [HB]
    clear HB
    go_enter Try.func48, Try.ntmps48
    go_wp2_with (go_at_call 31; refine (N _).mono ?_; rintro e wx ⟨rfl, hwx⟩; obtain rfl := hwx.symm)
    go_ret
    exact ⟨by simp <;> omega, alloc_below _ _⟩
  by_cases zl : M = 0
  case neg =>
    have HB : rbB k y e n x.toList L M = false := by simp [rbB, h1, h3, h7, h8, h9, h11, h12, hh, show ¬ 9 ≤ k by omega, zl]
    have zl' : ¬ (M : Int) = 0 := by omega
    rw [HB]
    clear HB
    go_enter Try.func48, Try.ntmps48
    go_wp2_with (go_at_call 31; refine (N _).mono ?_; rintro e wx ⟨rfl, hwx⟩; obtain rfl := hwx.symm)
    go_ret
    exact ⟨by simp <;> omega, alloc_below _ _⟩
  have HB : rbB k y e n x.toList L M = true := by simp [rbB, h1, h3, h7, h8, h9, h11, h12, hh, show ¬ 9 ≤ k by omega, zt, ze, zy, zi, zl]
  subst zi
  subst zl
  rw [HB]
  clear HB
  go_enter Try.func48, Try.ntmps48
  go_wp2_with (go_at_call 31; refine (N _).mono ?_; rintro e wx ⟨rfl, hwx⟩; obtain rfl := hwx.symm)
  go_ret
  exact ⟨by simp <;> omega, alloc_below _ _⟩
set_option maxHeartbeats 4000000 in
theorem rbare_8 (k y e n : Int) (x : ByteArray) (L M : Nat) (w : World) (ia : Option Addr) (ic : Nat) (la : Option Addr) (lc : Nat) (h1 : k = 8) :
    Calls Try.prog 48 #[.agg #[.int .i64 k, .int .i64 y, .int .i64 e, .int .i64 n, .string x, .slice ia L ic, .slice la M lc]] w fun e' w' => e' = .returned (.bool (rbB k y e n x.toList L M)) ∧ Below w.heap.size w w' := by
  subst h1
  have N := fun W => rholds_any 8 W
  by_cases zn : n = 0
  case neg =>
    have HB : rbB 8 y e n x.toList L M = false := by simp [rbB, zn]
    rw [HB]
    clear HB
    go_enter Try.func48, Try.ntmps48
    go_wp2_with (go_at_call 31; refine (N _).mono ?_; rintro e wx ⟨rfl, hwx⟩; obtain rfl := hwx.symm)
    go_ret
    exact ⟨by simp <;> omega, alloc_below _ _⟩
  by_cases ze : e = 0
  case neg =>
    have HB : rbB 8 y e n x.toList L M = false := by simp [rbB, ze]
    rw [HB]
    clear HB
    go_enter Try.func48, Try.ntmps48
    go_wp2_with (go_at_call 31; refine (N _).mono ?_; rintro e wx ⟨rfl, hwx⟩; obtain rfl := hwx.symm)
    go_ret
    exact ⟨by simp <;> omega, alloc_below _ _⟩
  by_cases zy : y = 0
  case neg =>
    have HB : rbB 8 y e n x.toList L M = false := by simp [rbB, zy]
    rw [HB]
    clear HB
    go_enter Try.func48, Try.ntmps48
    go_wp2_with (go_at_call 31; refine (N _).mono ?_; rintro e wx ⟨rfl, hwx⟩; obtain rfl := hwx.symm)
    go_ret
    exact ⟨by simp <;> omega, alloc_below _ _⟩
  by_cases zi : L = 0
  case neg =>
    have HB : rbB 8 y e n x.toList L M = false := by simp [rbB, zi]
    have zi' : ¬ (L : Int) = 0 := by omega
    rw [HB]
    clear HB
    go_enter Try.func48, Try.ntmps48
    go_wp2_with (go_at_call 31; refine (N _).mono ?_; rintro e wx ⟨rfl, hwx⟩; obtain rfl := hwx.symm)
    go_ret
    exact ⟨by simp <;> omega, alloc_below _ _⟩
  by_cases zl : M = 0
  case neg =>
    have HB : rbB 8 y e n x.toList L M = false := by simp [rbB, zl]
    have zl' : ¬ (M : Int) = 0 := by omega
    rw [HB]
    clear HB
    go_enter Try.func48, Try.ntmps48
    go_wp2_with (go_at_call 31; refine (N _).mono ?_; rintro e wx ⟨rfl, hwx⟩; obtain rfl := hwx.symm)
    go_ret
    exact ⟨by simp <;> omega, alloc_below _ _⟩
  have HB : rbB 8 y e n x.toList L M = true := by simp [rbB, zn, ze, zy, zi, zl]
  subst zi
  subst zl
  rw [HB]
  clear HB
  go_enter Try.func48, Try.ntmps48
  go_wp2_with (go_at_call 31; refine (N _).mono ?_; rintro e wx ⟨rfl, hwx⟩; obtain rfl := hwx.symm)
  go_ret
  exact ⟨by simp <;> omega, alloc_below _ _⟩
set_option maxHeartbeats 4000000 in
theorem rbare_9 (k y e n : Int) (x : ByteArray) (L M : Nat) (w : World) (ia : Option Addr) (ic : Nat) (la : Option Addr) (lc : Nat) (h1 : k = 9) :
    Calls Try.prog 48 #[.agg #[.int .i64 k, .int .i64 y, .int .i64 e, .int .i64 n, .string x, .slice ia L ic, .slice la M lc]] w fun e' w' => e' = .returned (.bool (rbB k y e n x.toList L M)) ∧ Below w.heap.size w w' := by
  subst h1
  have N := fun W => rholds_any 9 W
  by_cases zn : n = 0
  case neg =>
    have HB : rbB 9 y e n x.toList L M = false := by simp [rbB, zn]
    rw [HB]
    clear HB
    go_enter Try.func48, Try.ntmps48
    go_wp2_with (go_at_call 31; refine (N _).mono ?_; rintro e wx ⟨rfl, hwx⟩; obtain rfl := hwx.symm)
    go_ret
    exact ⟨by simp <;> omega, alloc_below _ _⟩
  by_cases zt : x.toList = []
  case neg =>
    have HB : rbB 9 y e n x.toList L M = false := by simp [rbB, zt]
    rw [HB]
    clear HB
    go_enter Try.func48, Try.ntmps48
    go_wp2_with (go_at_call 31; refine (N _).mono ?_; rintro e wx ⟨rfl, hwx⟩; obtain rfl := hwx.symm)
    go_ret
    exact ⟨by simp <;> omega, alloc_below _ _⟩
  by_cases zy : y = 0
  case neg =>
    have HB : rbB 9 y e n x.toList L M = false := by simp [rbB, zy]
    rw [HB]
    clear HB
    go_enter Try.func48, Try.ntmps48
    go_wp2_with (go_at_call 31; refine (N _).mono ?_; rintro e wx ⟨rfl, hwx⟩; obtain rfl := hwx.symm)
    go_ret
    exact ⟨by simp <;> omega, alloc_below _ _⟩
  by_cases zi : L = 0
  case neg =>
    have HB : rbB 9 y e n x.toList L M = false := by simp [rbB, zi]
    have zi' : ¬ (L : Int) = 0 := by omega
    rw [HB]
    clear HB
    go_enter Try.func48, Try.ntmps48
    go_wp2_with (go_at_call 31; refine (N _).mono ?_; rintro e wx ⟨rfl, hwx⟩; obtain rfl := hwx.symm)
    go_ret
    exact ⟨by simp <;> omega, alloc_below _ _⟩
  have HB : rbB 9 y e n x.toList L M = true := by simp [rbB, zn, zt, zy, zi]
  subst zi
  rw [HB]
  clear HB
  go_enter Try.func48, Try.ntmps48
  go_wp2_with (go_at_call 31; refine (N _).mono ?_; rintro e wx ⟨rfl, hwx⟩; obtain rfl := hwx.symm)
  go_ret
  exact ⟨by simp <;> omega, alloc_below _ _⟩
set_option maxHeartbeats 4000000 in
theorem rbare_11 (k y e n : Int) (x : ByteArray) (L M : Nat) (w : World) (ia : Option Addr) (ic : Nat) (la : Option Addr) (lc : Nat) (h1 : k = 11) :
    Calls Try.prog 48 #[.agg #[.int .i64 k, .int .i64 y, .int .i64 e, .int .i64 n, .string x, .slice ia L ic, .slice la M lc]] w fun e' w' => e' = .returned (.bool (rbB k y e n x.toList L M)) ∧ Below w.heap.size w w' := by
  subst h1
  have N := fun W => rholds_any 11 W
  by_cases zn : n = 0
  case neg =>
    have HB : rbB 11 y e n x.toList L M = false := by simp [rbB, zn]
    rw [HB]
    clear HB
    go_enter Try.func48, Try.ntmps48
    go_wp2_with (go_at_call 31; refine (N _).mono ?_; rintro e wx ⟨rfl, hwx⟩; obtain rfl := hwx.symm)
    go_ret
    exact ⟨by simp <;> omega, alloc_below _ _⟩
  by_cases zt : x.toList = []
  case neg =>
    have HB : rbB 11 y e n x.toList L M = false := by simp [rbB, zt]
    rw [HB]
    clear HB
    go_enter Try.func48, Try.ntmps48
    go_wp2_with (go_at_call 31; refine (N _).mono ?_; rintro e wx ⟨rfl, hwx⟩; obtain rfl := hwx.symm)
    go_ret
    exact ⟨by simp <;> omega, alloc_below _ _⟩
  by_cases zi : L = 0
  case neg =>
    have HB : rbB 11 y e n x.toList L M = false := by simp [rbB, zi]
    have zi' : ¬ (L : Int) = 0 := by omega
    rw [HB]
    clear HB
    go_enter Try.func48, Try.ntmps48
    go_wp2_with (go_at_call 31; refine (N _).mono ?_; rintro e wx ⟨rfl, hwx⟩; obtain rfl := hwx.symm)
    go_ret
    exact ⟨by simp <;> omega, alloc_below _ _⟩
  have HB : rbB 11 y e n x.toList L M = true := by simp [rbB, zn, zt, zi]
  subst zi
  rw [HB]
  clear HB
  go_enter Try.func48, Try.ntmps48
  go_wp2_with (go_at_call 31; refine (N _).mono ?_; rintro e wx ⟨rfl, hwx⟩; obtain rfl := hwx.symm)
  go_ret
  exact ⟨by simp <;> omega, alloc_below _ _⟩
set_option maxHeartbeats 4000000 in
theorem rbare_12 (k y e n : Int) (x : ByteArray) (L M : Nat) (w : World) (ia : Option Addr) (ic : Nat) (la : Option Addr) (lc : Nat) (h1 : k = 12) :
    Calls Try.prog 48 #[.agg #[.int .i64 k, .int .i64 y, .int .i64 e, .int .i64 n, .string x, .slice ia L ic, .slice la M lc]] w fun e' w' => e' = .returned (.bool (rbB k y e n x.toList L M)) ∧ Below w.heap.size w w' := by
  subst h1
  have N := fun W => rholds_any 12 W
  by_cases zn : n = 0
  case neg =>
    have HB : rbB 12 y e n x.toList L M = false := by simp [rbB, zn]
    rw [HB]
    clear HB
    go_enter Try.func48, Try.ntmps48
    go_wp2_with (go_at_call 31; refine (N _).mono ?_; rintro e wx ⟨rfl, hwx⟩; obtain rfl := hwx.symm)
    go_ret
    exact ⟨by simp <;> omega, alloc_below _ _⟩
  by_cases zt : x.toList = []
  case neg =>
    have HB : rbB 12 y e n x.toList L M = false := by simp [rbB, zt]
    rw [HB]
    clear HB
    go_enter Try.func48, Try.ntmps48
    go_wp2_with (go_at_call 31; refine (N _).mono ?_; rintro e wx ⟨rfl, hwx⟩; obtain rfl := hwx.symm)
    go_ret
    exact ⟨by simp <;> omega, alloc_below _ _⟩
  by_cases ze : e = 0
  case neg =>
    have HB : rbB 12 y e n x.toList L M = false := by simp [rbB, ze]
    rw [HB]
    clear HB
    go_enter Try.func48, Try.ntmps48
    go_wp2_with (go_at_call 31; refine (N _).mono ?_; rintro e wx ⟨rfl, hwx⟩; obtain rfl := hwx.symm)
    go_ret
    exact ⟨by simp <;> omega, alloc_below _ _⟩
  by_cases zy : y = 0
  case neg =>
    have HB : rbB 12 y e n x.toList L M = false := by simp [rbB, zy]
    rw [HB]
    clear HB
    go_enter Try.func48, Try.ntmps48
    go_wp2_with (go_at_call 31; refine (N _).mono ?_; rintro e wx ⟨rfl, hwx⟩; obtain rfl := hwx.symm)
    go_ret
    exact ⟨by simp <;> omega, alloc_below _ _⟩
  have HB : rbB 12 y e n x.toList L M = true := by simp [rbB, zn, zt, ze, zy]
  rw [HB]
  clear HB
  go_enter Try.func48, Try.ntmps48
  go_wp2_with (go_at_call 31; refine (N _).mono ?_; rintro e wx ⟨rfl, hwx⟩; obtain rfl := hwx.symm)
  go_ret
  exact ⟨by simp <;> omega, alloc_below _ _⟩
set_option maxHeartbeats 4000000 in
theorem rbare_G (k y e n : Int) (x : ByteArray) (L M : Nat) (w : World) (ia : Option Addr) (ic : Nat) (la : Option Addr) (lc : Nat) (h1 : ¬ k = 1) (h7 : 7 < k) (h3 : 3 ≤ k) (h8 : ¬ k = 8) (h9 : ¬ k = 9) (h11 : ¬ k = 11) (h12 : ¬ k = 12) (hh : 9 ≤ k) :
    Calls Try.prog 48 #[.agg #[.int .i64 k, .int .i64 y, .int .i64 e, .int .i64 n, .string x, .slice ia L ic, .slice la M lc]] w fun e' w' => e' = .returned (.bool (rbB k y e n x.toList L M)) ∧ Below w.heap.size w w' := by
  have N := fun W => rholds_any k W
  by_cases zn : n = 0
  case neg =>
    have HB : rbB k y e n x.toList L M = false := by simp [rbB, h1, h7, h3, h8, h9, h11, h12, hh, show ¬ k ≤ 7 by omega, zn]
    rw [HB]
    clear HB
    go_enter Try.func48, Try.ntmps48
    go_wp2_with (go_at_call 31; refine (N _).mono ?_; rintro e wx ⟨rfl, hwx⟩; obtain rfl := hwx.symm)
    go_ret
    exact ⟨by simp <;> omega, alloc_below _ _⟩
  by_cases zt : x.toList = []
  case neg =>
    have HB : rbB k y e n x.toList L M = false := by simp [rbB, h1, h7, h3, h8, h9, h11, h12, hh, show ¬ k ≤ 7 by omega, zt]
    rw [HB]
    clear HB
    go_enter Try.func48, Try.ntmps48
    go_wp2_with (go_at_call 31; refine (N _).mono ?_; rintro e wx ⟨rfl, hwx⟩; obtain rfl := hwx.symm)
    go_ret
    exact ⟨by simp <;> omega, alloc_below _ _⟩
  by_cases ze : e = 0
  case neg =>
    have HB : rbB k y e n x.toList L M = false := by simp [rbB, h1, h7, h3, h8, h9, h11, h12, hh, show ¬ k ≤ 7 by omega, ze]
    rw [HB]
    clear HB
    go_enter Try.func48, Try.ntmps48
    go_wp2_with (go_at_call 31; refine (N _).mono ?_; rintro e wx ⟨rfl, hwx⟩; obtain rfl := hwx.symm)
    go_ret
    exact ⟨by simp <;> omega, alloc_below _ _⟩
  by_cases zy : y = 0
  case neg =>
    have HB : rbB k y e n x.toList L M = false := by simp [rbB, h1, h7, h3, h8, h9, h11, h12, hh, show ¬ k ≤ 7 by omega, zy]
    rw [HB]
    clear HB
    go_enter Try.func48, Try.ntmps48
    go_wp2_with (go_at_call 31; refine (N _).mono ?_; rintro e wx ⟨rfl, hwx⟩; obtain rfl := hwx.symm)
    go_ret
    exact ⟨by simp <;> omega, alloc_below _ _⟩
  by_cases zi : L = 0
  case neg =>
    have HB : rbB k y e n x.toList L M = false := by simp [rbB, h1, h7, h3, h8, h9, h11, h12, hh, show ¬ k ≤ 7 by omega, zi]
    have zi' : ¬ (L : Int) = 0 := by omega
    rw [HB]
    clear HB
    go_enter Try.func48, Try.ntmps48
    go_wp2_with (go_at_call 31; refine (N _).mono ?_; rintro e wx ⟨rfl, hwx⟩; obtain rfl := hwx.symm)
    go_ret
    exact ⟨by simp <;> omega, alloc_below _ _⟩
  have HB : rbB k y e n x.toList L M = true := by simp [rbB, h1, h7, h3, h8, h9, h11, h12, hh, show ¬ k ≤ 7 by omega, zn, zt, ze, zy, zi]
  subst zi
  rw [HB]
  clear HB
  go_enter Try.func48, Try.ntmps48
  go_wp2_with (go_at_call 31; refine (N _).mono ?_; rintro e wx ⟨rfl, hwx⟩; obtain rfl := hwx.symm)
  go_ret
  exact ⟨by simp <;> omega, alloc_below _ _⟩
set_option maxHeartbeats 4000000 in
theorem rbare_H (k y e n : Int) (x : ByteArray) (L M : Nat) (w : World) (ia : Option Addr) (ic : Nat) (la : Option Addr) (lc : Nat) (h1 : ¬ k = 1) (h3 : k < 3) (h8 : ¬ k = 8) (h9 : ¬ k = 9) (h11 : ¬ k = 11) (h12 : ¬ k = 12) (hh : k < 9) :
    Calls Try.prog 48 #[.agg #[.int .i64 k, .int .i64 y, .int .i64 e, .int .i64 n, .string x, .slice ia L ic, .slice la M lc]] w fun e' w' => e' = .returned (.bool (rbB k y e n x.toList L M)) ∧ Below w.heap.size w w' := by
  have N := fun W => rholds_any k W
  by_cases zn : n = 0
  case neg =>
    have HB : rbB k y e n x.toList L M = false := by simp [rbB, h1, h3, h8, h9, h11, h12, hh, show ¬ 3 ≤ k by omega, show ¬ 9 ≤ k by omega, zn]
    rw [HB]
    clear HB
    go_enter Try.func48, Try.ntmps48
    go_wp2_with (go_at_call 31; refine (N _).mono ?_; rintro e wx ⟨rfl, hwx⟩; obtain rfl := hwx.symm)
    go_ret
    exact ⟨by simp <;> omega, alloc_below _ _⟩
  by_cases zt : x.toList = []
  case neg =>
    have HB : rbB k y e n x.toList L M = false := by simp [rbB, h1, h3, h8, h9, h11, h12, hh, show ¬ 3 ≤ k by omega, show ¬ 9 ≤ k by omega, zt]
    rw [HB]
    clear HB
    go_enter Try.func48, Try.ntmps48
    go_wp2_with (go_at_call 31; refine (N _).mono ?_; rintro e wx ⟨rfl, hwx⟩; obtain rfl := hwx.symm)
    go_ret
    exact ⟨by simp <;> omega, alloc_below _ _⟩
  by_cases ze : e = 0
  case neg =>
    have HB : rbB k y e n x.toList L M = false := by simp [rbB, h1, h3, h8, h9, h11, h12, hh, show ¬ 3 ≤ k by omega, show ¬ 9 ≤ k by omega, ze]
    rw [HB]
    clear HB
    go_enter Try.func48, Try.ntmps48
    go_wp2_with (go_at_call 31; refine (N _).mono ?_; rintro e wx ⟨rfl, hwx⟩; obtain rfl := hwx.symm)
    go_ret
    exact ⟨by simp <;> omega, alloc_below _ _⟩
  by_cases zy : y = 0
  case neg =>
    have HB : rbB k y e n x.toList L M = false := by simp [rbB, h1, h3, h8, h9, h11, h12, hh, show ¬ 3 ≤ k by omega, show ¬ 9 ≤ k by omega, zy]
    rw [HB]
    clear HB
    go_enter Try.func48, Try.ntmps48
    go_wp2_with (go_at_call 31; refine (N _).mono ?_; rintro e wx ⟨rfl, hwx⟩; obtain rfl := hwx.symm)
    go_ret
    exact ⟨by simp <;> omega, alloc_below _ _⟩
  by_cases zi : L = 0
  case neg =>
    have HB : rbB k y e n x.toList L M = false := by simp [rbB, h1, h3, h8, h9, h11, h12, hh, show ¬ 3 ≤ k by omega, show ¬ 9 ≤ k by omega, zi]
    have zi' : ¬ (L : Int) = 0 := by omega
    rw [HB]
    clear HB
    go_enter Try.func48, Try.ntmps48
    go_wp2_with (go_at_call 31; refine (N _).mono ?_; rintro e wx ⟨rfl, hwx⟩; obtain rfl := hwx.symm)
    go_ret
    exact ⟨by simp <;> omega, alloc_below _ _⟩
  by_cases zl : M = 0
  case neg =>
    have HB : rbB k y e n x.toList L M = false := by simp [rbB, h1, h3, h8, h9, h11, h12, hh, show ¬ 3 ≤ k by omega, show ¬ 9 ≤ k by omega, zl]
    have zl' : ¬ (M : Int) = 0 := by omega
    rw [HB]
    clear HB
    go_enter Try.func48, Try.ntmps48
    go_wp2_with (go_at_call 31; refine (N _).mono ?_; rintro e wx ⟨rfl, hwx⟩; obtain rfl := hwx.symm)
    go_ret
    exact ⟨by simp <;> omega, alloc_below _ _⟩
  have HB : rbB k y e n x.toList L M = true := by simp [rbB, h1, h3, h8, h9, h11, h12, hh, show ¬ 3 ≤ k by omega, show ¬ 9 ≤ k by omega, zn, zt, ze, zy, zi, zl]
  subst zi
  subst zl
  rw [HB]
  clear HB
  go_enter Try.func48, Try.ntmps48
  go_wp2_with (go_at_call 31; refine (N _).mono ?_; rintro e wx ⟨rfl, hwx⟩; obtain rfl := hwx.symm)
  go_ret
  exact ⟨by simp <;> omega, alloc_below _ _⟩
theorem rbare_any (p : Pay) (c : Fo) (w : World) (ia : Option Addr) (ic : Nat) (la : Option Addr) (lc : Nat) :
    Calls Try.prog 48 #[val p c ia ic la lc] w fun e w' => e = .returned (.bool (rbareB p c)) ∧ Below w.heap.size w w' := by
  by_cases h1 : p.kind = 1
  · exact rbare_1 _ _ _ _ _ _ _ w ia ic la lc h1
  by_cases h8 : p.kind = 8
  · exact rbare_8 _ _ _ _ _ _ _ w ia ic la lc h8
  by_cases h9 : p.kind = 9
  · exact rbare_9 _ _ _ _ _ _ _ w ia ic la lc h9
  by_cases h11 : p.kind = 11
  · exact rbare_11 _ _ _ _ _ _ _ w ia ic la lc h11
  by_cases h12 : p.kind = 12
  · exact rbare_12 _ _ _ _ _ _ _ w ia ic la lc h12
  by_cases h3 : 3 ≤ p.kind
  · by_cases h7 : p.kind ≤ 7
    · exact rbare_37 _ _ _ _ _ _ _ w ia ic la lc h1 h3 h7 h8 h9 h11 h12 (by omega)
    · exact rbare_G _ _ _ _ _ _ _ w ia ic la lc h1 (by omega) h3 h8 h9 h11 h12 (by omega)
  · exact rbare_H _ _ _ _ _ _ _ w ia ic la lc h1 (by omega) h8 h9 h11 h12 (by omega)
end Go.Proofs.Ytikoddlidhefpaa

/-
  The reference's kinds.
-/
namespace Go.Proofs.Ytikoddlidhefpaa
set_option linter.unusedSimpArgs false
open Go.ChangeShapes Go.WideShapes Go.ChangeAt Go.RowKit Go.Deep

/-- the loop of 'kinds': from the i-th on -/
def rkF (k y e : Int) : Nat → Fo → Bool
  | _, .nil => true
  | i, .node _ _ p _ r => (k == 12 || p.kind == (if k = 11 ∧ i % 2 = 0 then y else e)) && rkF k y e (i + 1) r
def rkindsB (p : Pay) (c : Fo) : Bool :=
  if p.kind = 9 then knownB p.elem && decide (flen c ≤ 65536) && rkF p.kind p.key p.elem 0 c
  else if p.kind = 11 then if flen c = 0 then p.key == 0 && p.elem == 0 else knownB p.elem && knownB p.key && decide (flen c % 2 = 0) && decide (flen c / 2 ≤ 65536) && rkF p.kind p.key p.elem 0 c
  else rkF p.kind p.key p.elem 0 c

/-- the loop, from its head on: what holds there -/
structure RK (w wr : World) (p : Pay) (c : Fo) (ia : Option Addr) (ic : Nat) (la : Option Addr) (lc : Nat) (i : Nat) : Prop where
  le : i ≤ flen c
  eq : Hid (rkF p.kind p.key p.elem i (fdrop c i) = rkF p.kind p.key p.elem 0 c)
  mem : Below (w.heap.size + 1) (bx w p c ia ic la lc) wr

set_option maxRecDepth 10000 in
set_option maxHeartbeats 4000000 in
theorem rkinds_9 (y e n : Int) (x : ByteArray) (l : List Int) (c : Fo) (w : World) (ia : Option Addr) (ic : Nat) (la : Option Addr) (lc : Nat) (hv : VIn w ⟨9, y, e, n, x, l⟩ c ia ic la lc) :
    Calls Try.prog 49 #[val ⟨9, y, e, n, x, l⟩ c ia ic la lc] w fun r w' => r = .returned (.bool (rkindsB ⟨9, y, e, n, x, l⟩ c)) ∧ Below w.heap.size w w' := by
  have t3' : (flen c : Int) ≤ 140737488355328 := by have := hv.len; omega
  have K1 := rknown_any e (bx w ⟨9, y, e, n, x, l⟩ c ia ic la lc)
  have HB : Hid (rkindsB ⟨9, y, e, n, x, l⟩ c = (knownB e && decide (flen c ≤ 65536) && rkF 9 y e 0 c)) := by show _ = _; simp [rkindsB]
  obtain ⟨k1, HK1⟩ : ∃ t, Hid (knownB e = t) := ⟨_, rfl⟩
  rw [HK1.out] at K1
  cases k1
  case false =>
    have HN : Hid (rkindsB ⟨9, y, e, n, x, l⟩ c = false) := by show _ = _; rw [HB.out, HK1.out]; simp
    go_enter Try.func49, Try.ntmps49
    go_wp2_with fail
    refine K1.mono ?_
    rintro r wx ⟨rfl, hwx⟩
    obtain rfl := hwx.symm
    go_wp2_with fail
    go_ret
    exact ⟨by rw [HN.out]; rfl, alloc_below _ _⟩
  by_cases hl : flen c ≤ 65536
  case neg =>
    have hl' : (65536 : Int) < (flen c : Int) := by omega
    have HN : Hid (rkindsB ⟨9, y, e, n, x, l⟩ c = false) := by show _ = _; rw [HB.out]; simp [hl]
    go_enter Try.func49, Try.ntmps49
    go_wp2_with fail
    refine K1.mono ?_
    rintro r wx ⟨rfl, hwx⟩
    obtain rfl := hwx.symm
    go_wp2_with fail
    go_ret
    exact ⟨by rw [HN.out]; rfl, alloc_below _ _⟩
  have hl' : (flen c : Int) ≤ 65536 := by omega
  have HR : Hid (rkindsB ⟨9, y, e, n, x, l⟩ c = rkF 9 y e 0 c) := by show _ = _; rw [HB.out, HK1.out]; simp [hl]
  clear HB HK1
  go_enter Try.func49, Try.ntmps49
  go_wp2_with fail
  refine K1.mono ?_
  rintro r wx ⟨rfl, hwx⟩
  obtain rfl := hwx.symm
  go_wp2_with fail
  go_loopw [3] (fun iv wr => ∃ i : Nat, iv = .int .i64 i ∧ RK w wr ⟨9, y, e, n, x, l⟩ c ia ic la lc i) (fun iv _ => flen c - (intOf iv).toNat)
  case atStart => exact ⟨0, rfl, Nat.zero_le _, by cases c <;> rfl, Below.refl _ _⟩
  case round =>
    obtain ⟨i, rfl, hi, HE, hb⟩ := hrel
    obtain ⟨y0, y1, y2, y3, y4, y5, y6⟩ := bx_cells hb
    simp only at y0 y1 y2 y3 y4 y5
    by_cases hlt : i < flen c
    · have hlt' : (i : Int) < (flen c : Int) := by omega
      obtain ⟨q, d, b, o, ja, jc, ka, kc, bt, ot, _, hm, ef, rfl, hbl, hv', d0, d1, d2, d3, d4, d5, d6⟩ := row_at (hv.list.later (box_below hb)) hlt
      have HS : Hid (((q.kind == e) && rkF 9 y e (i + 1) (fdrop c (i + 1))) = rkF 9 y e 0 c) := by
        have := HE.out
        rw [ef] at this
        show _ = _
        simpa [rkF] using this
      clear HE ef
      by_cases hq : q.kind = e
      · have HN : Hid (rkF 9 y e (i + 1) (fdrop c (i + 1)) = rkF 9 y e 0 c) := by show _ = _; rw [← HS.out]; simp [hq]
        rw [hq] at d0
        clear hq
        go_wp2_with fail
        go_roundw
        case rel => exact ⟨i + 1, by go_num, by omega, HN, hb⟩
        case measure => simp [intOf]; omega
      · have HN : Hid (rkF 9 y e 0 c = false) := by show _ = _; rw [← HS.out]; simp [hq]
        go_wp2_with fail
        go_ret
        exact ⟨by rw [HR.out, HN.out]; rfl, box_below hb⟩
    · have hlt' : (flen c : Int) ≤ (i : Int) := by omega
      have HN : Hid (rkF 9 y e 0 c = true) := by
        have := HE.out
        rw [show fdrop c i = .nil by rw [show i = flen c by omega]; exact fdrop_end c] at this
        show _ = _
        simpa [rkF] using this.symm
      go_wp2_with fail
      go_ret
      exact ⟨by rw [HR.out, HN.out]; rfl, box_below hb⟩
set_option maxRecDepth 10000 in
set_option maxHeartbeats 4000000 in
theorem rkinds_12 (y e n : Int) (x : ByteArray) (l : List Int) (c : Fo) (w : World) (ia : Option Addr) (ic : Nat) (la : Option Addr) (lc : Nat) (hv : VIn w ⟨12, y, e, n, x, l⟩ c ia ic la lc) :
    Calls Try.prog 49 #[val ⟨12, y, e, n, x, l⟩ c ia ic la lc] w fun r w' => r = .returned (.bool (rkindsB ⟨12, y, e, n, x, l⟩ c)) ∧ Below w.heap.size w w' := by
  have t3' : (flen c : Int) ≤ 140737488355328 := by have := hv.len; omega
  have HR : Hid (rkindsB ⟨12, y, e, n, x, l⟩ c = rkF 12 y e 0 c) := by show _ = _; simp [rkindsB]
  go_enter Try.func49, Try.ntmps49
  go_wp2_with fail
  go_loopw [3] (fun iv wr => ∃ i : Nat, iv = .int .i64 i ∧ RK w wr ⟨12, y, e, n, x, l⟩ c ia ic la lc i) (fun iv _ => flen c - (intOf iv).toNat)
  case atStart => exact ⟨0, rfl, Nat.zero_le _, by cases c <;> rfl, Below.refl _ _⟩
  case round =>
    obtain ⟨i, rfl, hi, HE, hb⟩ := hrel
    obtain ⟨y0, y1, y2, y3, y4, y5, y6⟩ := bx_cells hb
    simp only at y0 y1 y2 y3 y4 y5
    by_cases hlt : i < flen c
    · have hlt' : (i : Int) < (flen c : Int) := by omega
      obtain ⟨q, d, b, o, ja, jc, ka, kc, bt, ot, _, hm, ef, rfl, hbl, hv', d0, d1, d2, d3, d4, d5, d6⟩ := row_at (hv.list.later (box_below hb)) hlt
      have HN : Hid (rkF 12 y e (i + 1) (fdrop c (i + 1)) = rkF 12 y e 0 c) := by
        have := HE.out
        rw [ef] at this
        show _ = _
        simpa [rkF] using this
      go_wp2_with fail
      go_roundw
      case rel => exact ⟨i + 1, by go_num, by omega, HN, hb⟩
      case measure => simp [intOf]; omega
    · have hlt' : (flen c : Int) ≤ (i : Int) := by omega
      have HN : Hid (rkF 12 y e 0 c = true) := by
        have := HE.out
        rw [show fdrop c i = .nil by rw [show i = flen c by omega]; exact fdrop_end c] at this
        show _ = _
        simpa [rkF] using this.symm
      go_wp2_with fail
      go_ret
      exact ⟨by rw [HR.out, HN.out]; rfl, box_below hb⟩
set_option maxRecDepth 10000 in
set_option maxHeartbeats 4000000 in
theorem rkinds_o (k y e n : Int) (x : ByteArray) (l : List Int) (c : Fo) (w : World) (ia : Option Addr) (ic : Nat) (la : Option Addr) (lc : Nat) (h9 : ¬ k = 9) (h11 : ¬ k = 11) (hc : flen c = 0) (hv : VIn w ⟨k, y, e, n, x, l⟩ c ia ic la lc) :
    Calls Try.prog 49 #[val ⟨k, y, e, n, x, l⟩ c ia ic la lc] w fun r w' => r = .returned (.bool (rkindsB ⟨k, y, e, n, x, l⟩ c)) ∧ Below w.heap.size w w' := by
  have t3' : (flen c : Int) ≤ 140737488355328 := by have := hv.len; omega
  have HR : Hid (rkindsB ⟨k, y, e, n, x, l⟩ c = true) := by
    show _ = _
    cases c with
    | nil => simp [rkindsB, h9, h11, rkF]
    | node _ _ _ _ r => simp [flen] at hc
  have HC : Hid (flen c = 0) := hc
  clear hc
  go_enter Try.func49, Try.ntmps49
  go_wp2_with fail
  go_loopw [3] (fun iv wr => iv = .int .i64 0 ∧ Below (w.heap.size + 1) (bx w ⟨k, y, e, n, x, l⟩ c ia ic la lc) wr) (fun _ _ => 0)
  case atStart => exact ⟨rfl, Below.refl _ _⟩
  case round =>
    obtain ⟨rfl, hb⟩ := hrel
    obtain ⟨y0, y1, y2, y3, y4, y5, y6⟩ := bx_cells hb
    simp only at y0 y1 y2 y3 y4 y5
    rw [HC.out] at y6
    go_wp2_with fail
    go_ret
    exact ⟨by rw [HR.out]; rfl, box_below hb⟩
set_option maxRecDepth 10000 in
set_option maxHeartbeats 4000000 in
theorem rkinds_11 (y e n : Int) (x : ByteArray) (l : List Int) (c : Fo) (w : World) (ia : Option Addr) (ic : Nat) (la : Option Addr) (lc : Nat) (hv : VIn w ⟨11, y, e, n, x, l⟩ c ia ic la lc) :
    Calls Try.prog 49 #[val ⟨11, y, e, n, x, l⟩ c ia ic la lc] w fun r w' => r = .returned (.bool (rkindsB ⟨11, y, e, n, x, l⟩ c)) ∧ Below w.heap.size w w' := by
  have t3' : (flen c : Int) ≤ 140737488355328 := by have := hv.len; omega
  have K1 := rknown_any e (bx w ⟨11, y, e, n, x, l⟩ c ia ic la lc)
  have K2 := rknown_any y (bx w ⟨11, y, e, n, x, l⟩ c ia ic la lc)
  by_cases h0 : flen c = 0
  case pos =>
    have HB : Hid (rkindsB ⟨11, y, e, n, x, l⟩ c = (y == 0 && e == 0)) := by show _ = _; simp [rkindsB, h0]
    by_cases hy : y = 0
    · go_enter Try.func49, Try.ntmps49
      go_wp2_with fail
      go_ret
      exact ⟨by rw [HB.out]; simp [hy], alloc_below _ _⟩
    · go_enter Try.func49, Try.ntmps49
      go_wp2_with fail
      go_ret
      exact ⟨by rw [HB.out]; simp [hy], alloc_below _ _⟩
  have h0' : ¬ (flen c : Int) = 0 := by omega
  have HB : Hid (rkindsB ⟨11, y, e, n, x, l⟩ c = (knownB e && knownB y && decide (flen c % 2 = 0) && decide (flen c / 2 ≤ 65536) && rkF 11 y e 0 c)) := by show _ = _; simp [rkindsB, h0]
  obtain ⟨k1, HK1⟩ : ∃ t, Hid (knownB e = t) := ⟨_, rfl⟩
  obtain ⟨k2, HK2⟩ : ∃ t, Hid (knownB y = t) := ⟨_, rfl⟩
  rw [HK1.out] at K1
  rw [HK2.out] at K2
  cases k1
  case false =>
    have HN : Hid (rkindsB ⟨11, y, e, n, x, l⟩ c = false) := by show _ = _; rw [HB.out, HK1.out]; simp
    go_enter Try.func49, Try.ntmps49
    go_wp2_with fail
    refine K1.mono ?_
    rintro r wx ⟨rfl, hwx⟩
    obtain rfl := hwx.symm
    go_wp2_with fail
    go_ret
    exact ⟨by rw [HN.out]; rfl, alloc_below _ _⟩
  cases k2
  case false =>
    have HN : Hid (rkindsB ⟨11, y, e, n, x, l⟩ c = false) := by show _ = _; rw [HB.out, HK2.out]; simp
    go_enter Try.func49, Try.ntmps49
    go_wp2_with fail
    refine K1.mono ?_
    rintro r wx ⟨rfl, hwx⟩
    obtain rfl := hwx.symm
    go_wp2_with fail
    refine K2.mono ?_
    rintro r wx ⟨rfl, hwx⟩
    obtain rfl := hwx.symm
    go_wp2_with fail
    go_ret
    exact ⟨by rw [HN.out]; rfl, alloc_below _ _⟩
  by_cases h1 : flen c % 2 = 0
  case neg =>
    have h1' : (flen c : Int) % 2 = 1 := by omega
    have HN : Hid (rkindsB ⟨11, y, e, n, x, l⟩ c = false) := by show _ = _; rw [HB.out]; simp [h1]
    go_enter Try.func49, Try.ntmps49
    go_wp2_with fail
    refine K1.mono ?_
    rintro r wx ⟨rfl, hwx⟩
    obtain rfl := hwx.symm
    go_wp2_with fail
    refine K2.mono ?_
    rintro r wx ⟨rfl, hwx⟩
    obtain rfl := hwx.symm
    go_wp2_with fail
    go_ret
    exact ⟨by rw [HN.out]; rfl, alloc_below _ _⟩
  have h1' : (flen c : Int) % 2 = 0 := by omega
  by_cases h2 : flen c / 2 ≤ 65536
  case neg =>
    have h2' : (65536 : Int) < (flen c : Int) / 2 := by omega
    have HN : Hid (rkindsB ⟨11, y, e, n, x, l⟩ c = false) := by show _ = _; rw [HB.out]; simp [h2]
    go_enter Try.func49, Try.ntmps49
    go_wp2_with fail
    refine K1.mono ?_
    rintro r wx ⟨rfl, hwx⟩
    obtain rfl := hwx.symm
    go_wp2_with fail
    refine K2.mono ?_
    rintro r wx ⟨rfl, hwx⟩
    obtain rfl := hwx.symm
    go_wp2_with fail
    go_ret
    exact ⟨by rw [HN.out]; rfl, alloc_below _ _⟩
  have h2' : (flen c : Int) / 2 ≤ 65536 := by omega
  have HR : Hid (rkindsB ⟨11, y, e, n, x, l⟩ c = rkF 11 y e 0 c) := by show _ = _; rw [HB.out, HK1.out, HK2.out]; simp [h1, h2]
  clear HB HK1 HK2 h1 h2
  go_enter Try.func49, Try.ntmps49
  go_wp2_with fail
  refine K1.mono ?_
  rintro r wx ⟨rfl, hwx⟩
  obtain rfl := hwx.symm
  go_wp2_with fail
  refine K2.mono ?_
  rintro r wx ⟨rfl, hwx⟩
  obtain rfl := hwx.symm
  go_wp2_with fail
  go_loopw [3] (fun iv wr => ∃ i : Nat, iv = .int .i64 i ∧ RK w wr ⟨11, y, e, n, x, l⟩ c ia ic la lc i) (fun iv _ => flen c - (intOf iv).toNat)
  case atStart => exact ⟨0, rfl, Nat.zero_le _, by cases c <;> rfl, Below.refl _ _⟩
  case round =>
    obtain ⟨i, rfl, hi, HE, hb⟩ := hrel
    obtain ⟨y0, y1, y2, y3, y4, y5, y6⟩ := bx_cells hb
    simp only at y0 y1 y2 y3 y4 y5
    by_cases hlt : i < flen c
    · have hlt' : (i : Int) < (flen c : Int) := by omega
      obtain ⟨q, d, b, o, ja, jc, ka, kc, bt, ot, _, hm, ef, rfl, hbl, hv', d0, d1, d2, d3, d4, d5, d6⟩ := row_at (hv.list.later (box_below hb)) hlt
      by_cases hm2 : i % 2 = 0
      case pos =>
        have hm2' : (i : Int) % 2 = 0 := by omega
        have HS : Hid (((q.kind == y) && rkF 11 y e (i + 1) (fdrop c (i + 1))) = rkF 11 y e 0 c) := by
          have := HE.out
          rw [ef] at this
          show _ = _
          simpa [rkF, hm2] using this
        clear HE ef
        by_cases hq : q.kind = y
        · have HN : Hid (rkF 11 y e (i + 1) (fdrop c (i + 1)) = rkF 11 y e 0 c) := by show _ = _; rw [← HS.out]; simp [hq]
          rw [hq] at d0
          clear hq
          go_wp2_with fail
          go_roundw
          case rel => exact ⟨i + 1, by go_num, by omega, HN, hb⟩
          case measure => simp [intOf]; omega
        · have HN : Hid (rkF 11 y e 0 c = false) := by show _ = _; rw [← HS.out]; simp [hq]
          go_wp2_with fail
          go_ret
          exact ⟨by rw [HR.out, HN.out]; rfl, box_below hb⟩
      case neg =>
        have hm2' : (i : Int) % 2 = 1 := by omega
        have HS : Hid (((q.kind == e) && rkF 11 y e (i + 1) (fdrop c (i + 1))) = rkF 11 y e 0 c) := by
          have := HE.out
          rw [ef] at this
          show _ = _
          simpa [rkF, hm2] using this
        clear HE ef
        by_cases hq : q.kind = e
        · have HN : Hid (rkF 11 y e (i + 1) (fdrop c (i + 1)) = rkF 11 y e 0 c) := by show _ = _; rw [← HS.out]; simp [hq]
          rw [hq] at d0
          clear hq
          go_wp2_with fail
          go_roundw
          case rel => exact ⟨i + 1, by go_num, by omega, HN, hb⟩
          case measure => simp [intOf]; omega
        · have HN : Hid (rkF 11 y e 0 c = false) := by show _ = _; rw [← HS.out]; simp [hq]
          go_wp2_with fail
          go_ret
          exact ⟨by rw [HR.out, HN.out]; rfl, box_below hb⟩
    · have hlt' : (flen c : Int) ≤ (i : Int) := by omega
      have HN : Hid (rkF 11 y e 0 c = true) := by
        have := HE.out
        rw [show fdrop c i = .nil by rw [show i = flen c by omega]; exact fdrop_end c] at this
        show _ = _
        simpa [rkF] using this.symm
      go_wp2_with fail
      go_ret
      exact ⟨by rw [HR.out, HN.out]; rfl, box_below hb⟩
theorem rkinds_any (p : Pay) (c : Fo) (w : World) (ia : Option Addr) (ic : Nat) (la : Option Addr) (lc : Nat) (hv : VIn w p c ia ic la lc) (ho : p.kind = 9 ∨ p.kind = 11 ∨ p.kind = 12 ∨ flen c = 0) :
    Calls Try.prog 49 #[val p c ia ic la lc] w fun e w' => e = .returned (.bool (rkindsB p c)) ∧ Below w.heap.size w w' := by
  obtain ⟨k, y, e, n, x, l⟩ := p
  by_cases h9 : k = 9
  · subst h9; exact rkinds_9 y e n x l c w ia ic la lc hv
  by_cases h11 : k = 11
  · subst h11; exact rkinds_11 y e n x l c w ia ic la lc hv
  by_cases h12 : k = 12
  · subst h12; exact rkinds_12 y e n x l c w ia ic la lc hv
  simp only at ho
  exact rkinds_o k y e n x l c w ia ic la lc h9 h11 (by omega) hv
end Go.Proofs.Ytikoddlidhefpaa
