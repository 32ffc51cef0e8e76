/-
  The reference's bare.
-/
import Derived.Test.YtikoddlidhefpaaRefA
import Derived.Test.YtikoddlidhefpaaSizeB
namespace Go.Proofs.Ytikoddlidhefpaa
open Go.ChangeShapes Go.WideShapes Go.ChangeAt Go.RowKit Go.Deep
set_option linter.unusedSimpArgs false
set_option linter.unusedVariables false

def rbB (k y e n : Int) (x : List UInt8) (L M : Nat) : Bool :=
  (k == 1 || decide (3 ≤ k) && decide (k ≤ 7) || n == 0) && (k == 8 || decide (x = [])) && (k == 9 || k == 11 || e == 0) && (k == 11 || y == 0) && (k == 12 || decide (L = 0)) && (decide (9 ≤ k) || decide (M = 0))
def rbareB (p : Pay) (c : Fo) : Bool := rbB p.kind p.key p.elem p.num p.text.toList p.ids.length (flen c)

set_option maxHeartbeats 4000000 in
theorem rbare_1 (k y e n : Int) (x : ByteArray) (L M : Nat) (w : World) (ia : Option Addr) (ic : Nat) (la : Option Addr) (lc : Nat) (h1 : k = 1) :
    Calls Try.prog 48 #[.agg #[.int .i64 k, .int .i64 y, .int .i64 e, .int .i64 n, .string x, .slice ia L ic, .slice la M lc]] w fun e' w' => e' = .returned (.bool (rbB k y e n x.toList L M)) ∧ Below w.heap.size w w' := by
  subst h1
  have N := fun W => rholds_any 1 W
  by_cases zt : x.toList = []
  case neg =>
    have HB : rbB 1 y e n x.toList L M = false := by simp [rbB, zt]
    rw [HB]
    clear HB
    go_enter Try.func48, Try.ntmps48
    go_wp2_with (go_at_call 31; refine (N _).mono ?_; rintro e wx ⟨rfl, hwx⟩; obtain rfl := hwx.symm)
    go_ret
    exact ⟨by simp <;> omega, alloc_below _ _⟩
  by_cases ze : e = 0
  case neg =>
    have HB : rbB 1 y e n x.toList L M = false := by simp [rbB, ze]
    rw [HB]
    clear HB
    go_enter Try.func48, Try.ntmps48
    go_wp2_with (go_at_call 31; refine (N _).mono ?_; rintro e wx ⟨rfl, hwx⟩; obtain rfl := hwx.symm)
    go_ret
    exact ⟨by simp <;> omega, alloc_below _ _⟩
  by_cases zy : y = 0
  case neg =>
    have HB : rbB 1 y e n x.toList L M = false := by simp [rbB, zy]
    rw [HB]
    clear HB
    go_enter Try.func48, Try.ntmps48
    go_wp2_with (go_at_call 31; refine (N _).mono ?_; rintro e wx ⟨rfl, hwx⟩; obtain rfl := hwx.symm)
    go_ret
    exact ⟨by simp <;> omega, alloc_below _ _⟩
  by_cases zi : L = 0
  case neg =>
    have HB : rbB 1 y e n x.toList L M = false := by simp [rbB, zi]
    have zi' : ¬ (L : Int) = 0 := by omega
    rw [HB]
    clear HB
    go_enter Try.func48, Try.ntmps48
    go_wp2_with (go_at_call 31; refine (N _).mono ?_; rintro e wx ⟨rfl, hwx⟩; obtain rfl := hwx.symm)
    go_ret
    exact ⟨by simp <;> omega, alloc_below _ _⟩
  by_cases zl : M = 0
  case neg =>
    have HB : rbB 1 y e n x.toList L M = false := by simp [rbB, zl]
    have zl' : ¬ (M : Int) = 0 := by omega
    rw [HB]
    clear HB
    go_enter Try.func48, Try.ntmps48
    go_wp2_with (go_at_call 31; refine (N _).mono ?_; rintro e wx ⟨rfl, hwx⟩; obtain rfl := hwx.symm)
    go_ret
    exact ⟨by simp <;> omega, alloc_below _ _⟩
  have HB : rbB 1 y e n x.toList L M = true := by simp [rbB, zt, ze, zy, zi, zl]
  subst zi
  subst zl
  rw [HB]
  clear HB
  go_enter Try.func48, Try.ntmps48
  go_wp2_with (go_at_call 31; refine (N _).mono ?_; rintro e wx ⟨rfl, hwx⟩; obtain rfl := hwx.symm)
  go_ret
  exact ⟨by simp <;> omega, alloc_below _ _⟩
set_option maxHeartbeats 4000000 in
theorem rbare_37 (k y e n : Int) (x : ByteArray) (L M : Nat) (w : World) (ia : Option Addr) (ic : Nat) (la : Option Addr) (lc : Nat) (h1 : ¬ k = 1) (h3 : 3 ≤ k) (h7 : k ≤ 7) (h8 : ¬ k = 8) (h9 : ¬ k = 9) (h11 : ¬ k = 11) (h12 : ¬ k = 12) (hh : k < 9) :
    Calls Try.prog 48 #[.agg #[.int .i64 k, .int .i64 y, .int .i64 e, .int .i64 n, .string x, .slice ia L ic, .slice la M lc]] w fun e' w' => e' = .returned (.bool (rbB k y e n x.toList L M)) ∧ Below w.heap.size w w' := by
  have N := fun W => rholds_any k W
  by_cases zt : x.toList = []
  case neg =>
    have HB : rbB k y e n x.toList L M = false := by simp [rbB, h1, h3, h7, h8, h9, h11, h12, hh, show ¬ 9 ≤ k by omega, zt]
    rw [HB]
    clear HB
    go_enter Try.func48, Try.ntmps48
    go_wp2_with (go_at_call 31; refine (N _).mono ?_; rintro e wx ⟨rfl, hwx⟩; obtain rfl := hwx.symm)
    go_ret
    exact ⟨by simp <;> omega, alloc_below _ _⟩
  by_cases ze : e = 0
  case neg =>
    have HB : rbB k y e n x.toList L M = false := by simp [rbB, h1, h3, h7, h8, h9, h11, h12, hh, show ¬ 9 ≤ k by omega, ze]
    rw [HB]
    clear HB
    go_enter Try.func48, Try.ntmps48
    go_wp2_with (go_at_call 31; refine (N _).mono ?_; rintro e wx ⟨rfl, hwx⟩; obtain rfl := hwx.symm)
    go_ret
    exact ⟨by simp <;> omega, alloc_below _ _⟩
  by_cases zy : y = 0
  case neg =>
    have HB : rbB k y e n x.toList L M = false := by simp [rbB, h1, h3, h7, h8, h9, h11, h12, hh, show ¬ 9 ≤ k by omega, zy]
    rw [HB]
    clear HB
    go_enter Try.func48, Try.ntmps48
    go_wp2_with (go_at_call 31; refine (N _).mono ?_; rintro e wx ⟨rfl, hwx⟩; obtain rfl := hwx.symm)
    go_ret
    exact ⟨by simp <;> omega, alloc_below _ _⟩
  by_cases zi : L = 0
  case neg =>
    have HB : rbB k y e n x.toList L M = false := by simp [rbB, h1, h3, h7, h8, h9, h11, h12, hh, show ¬ 9 ≤ k by omega, zi]
    have zi' : ¬ (L : Int) = 0 := by omega
    rw [HB]
    clear HB
    go_enter Try.func48, Try.ntmps48
    go_wp2_with (go_at_call 31; refine (N _).mono ?_; rintro e wx ⟨rfl, hwx⟩; obtain rfl := hwx.symm)
    go_ret
    exact ⟨by simp <;> omega, alloc_below _ _⟩
  by_cases zl : M = 0
  case neg =>
    have HB : rbB k y e n x.toList L M = false := by simp [rbB, h1, h3, h7, h8, h9, h11, h12, hh, show ¬ 9 ≤ k by omega, zl]
    have zl' : ¬ (M : Int) = 0 := by omega
    rw [HB]
    clear HB
    go_enter Try.func48, Try.ntmps48
    go_wp2_with (go_at_call 31; refine (N _).mono ?_; rintro e wx ⟨rfl, hwx⟩; obtain rfl := hwx.symm)
    go_ret
    exact ⟨by simp <;> omega, alloc_below _ _⟩
  have HB : rbB k y e n x.toList L M = true := by simp [rbB, h1, h3, h7, h8, h9, h11, h12, hh, show ¬ 9 ≤ k by omega, zt, ze, zy, zi, zl]
  subst zi
  subst zl
  rw [HB]
  clear HB
  go_enter Try.func48, Try.ntmps48
  go_wp2_with (go_at_call 31; refine (N _).mono ?_; rintro e wx ⟨rfl, hwx⟩; obtain rfl := hwx.symm)
  go_ret
  exact ⟨by simp <;> omega, alloc_below _ _⟩
set_option maxHeartbeats 4000000 in
theorem rbare_8 (k y e n : Int) (x : ByteArray) (L M : Nat) (w : World) (ia : Option Addr) (ic : Nat) (la : Option Addr) (lc : Nat) (h1 : k = 8) :
    Calls Try.prog 48 #[.agg #[.int .i64 k, .int .i64 y, .int .i64 e, .int .i64 n, .string x, .slice ia L ic, .slice la M lc]] w fun e' w' => e' = .returned (.bool (rbB k y e n x.toList L M)) ∧ Below w.heap.size w w' := by
  subst h1
  have N := fun W => rholds_any 8 W
  by_cases zn : n = 0
  case neg =>
    have HB : rbB 8 y e n x.toList L M = false := by simp [rbB, zn]
    rw [HB]
    clear HB
    go_enter Try.func48, Try.ntmps48
    go_wp2_with (go_at_call 31; refine (N _).mono ?_; rintro e wx ⟨rfl, hwx⟩; obtain rfl := hwx.symm)
    go_ret
    exact ⟨by simp <;> omega, alloc_below _ _⟩
  by_cases ze : e = 0
  case neg =>
    have HB : rbB 8 y e n x.toList L M = false := by simp [rbB, ze]
    rw [HB]
    clear HB
    go_enter Try.func48, Try.ntmps48
    go_wp2_with (go_at_call 31; refine (N _).mono ?_; rintro e wx ⟨rfl, hwx⟩; obtain rfl := hwx.symm)
    go_ret
    exact ⟨by simp <;> omega, alloc_below _ _⟩
  by_cases zy : y = 0
  case neg =>
    have HB : rbB 8 y e n x.toList L M = false := by simp [rbB, zy]
    rw [HB]
    clear HB
    go_enter Try.func48, Try.ntmps48
    go_wp2_with (go_at_call 31; refine (N _).mono ?_; rintro e wx ⟨rfl, hwx⟩; obtain rfl := hwx.symm)
    go_ret
    exact ⟨by simp <;> omega, alloc_below _ _⟩
  by_cases zi : L = 0
  case neg =>
    have HB : rbB 8 y e n x.toList L M = false := by simp [rbB, zi]
    have zi' : ¬ (L : Int) = 0 := by omega
    rw [HB]
    clear HB
    go_enter Try.func48, Try.ntmps48
    go_wp2_with (go_at_call 31; refine (N _).mono ?_; rintro e wx ⟨rfl, hwx⟩; obtain rfl := hwx.symm)
    go_ret
    exact ⟨by simp <;> omega, alloc_below _ _⟩
  by_cases zl : M = 0
  case neg =>
    have HB : rbB 8 y e n x.toList L M = false := by simp [rbB, zl]
    have zl' : ¬ (M : Int) = 0 := by omega
    rw [HB]
    clear HB
    go_enter Try.func48, Try.ntmps48
    go_wp2_with (go_at_call 31; refine (N _).mono ?_; rintro e wx ⟨rfl, hwx⟩; obtain rfl := hwx.symm)
    go_ret
    exact ⟨by simp <;> omega, alloc_below _ _⟩
  have HB : rbB 8 y e n x.toList L M = true := by simp [rbB, zn, ze, zy, zi, zl]
  subst zi
  subst zl
  rw [HB]
  clear HB
  go_enter Try.func48, Try.ntmps48
  go_wp2_with (go_at_call 31; refine (N _).mono ?_; rintro e wx ⟨rfl, hwx⟩; obtain rfl := hwx.symm)
  go_ret
  exact ⟨by simp <;> omega, alloc_below _ _⟩
set_option maxHeartbeats 4000000 in
theorem rbare_9 (k y e n : Int) (x : ByteArray) (L M : Nat) (w : World) (ia : Option Addr) (ic : Nat) (la : Option Addr) (lc : Nat) (h1 : k = 9) :
    Calls Try.prog 48 #[.agg #[.int .i64 k, .int .i64 y, .int .i64 e, .int .i64 n, .string x, .slice ia L ic, .slice la M lc]] w fun e' w' => e' = .returned (.bool (rbB k y e n x.toList L M)) ∧ Below w.heap.size w w' := by
  subst h1
  have N := fun W => rholds_any 9 W
  by_cases zn : n = 0
  case neg =>
    have HB : rbB 9 y e n x.toList L M = false := by simp [rbB, zn]
    rw [HB]
    clear HB
    go_enter Try.func48, Try.ntmps48
    go_wp2_with (go_at_call 31; refine (N _).mono ?_; rintro e wx ⟨rfl, hwx⟩; obtain rfl := hwx.symm)
    go_ret
    exact ⟨by simp <;> omega, alloc_below _ _⟩
  by_cases zt : x.toList = []
  case neg =>
    have HB : rbB 9 y e n x.toList L M = false := by simp [rbB, zt]
    rw [HB]
    clear HB
    go_enter Try.func48, Try.ntmps48
    go_wp2_with (go_at_call 31; refine (N _).mono ?_; rintro e wx ⟨rfl, hwx⟩; obtain rfl := hwx.symm)
    go_ret
    exact ⟨by simp <;> omega, alloc_below _ _⟩
  by_cases zy : y = 0
  case neg =>
    have HB : rbB 9 y e n x.toList L M = false := by simp [rbB, zy]
    rw [HB]
    clear HB
    go_enter Try.func48, Try.ntmps48
    go_wp2_with (go_at_call 31; refine (N _).mono ?_; rintro e wx ⟨rfl, hwx⟩; obtain rfl := hwx.symm)
    go_ret
    exact ⟨by simp <;> omega, alloc_below _ _⟩
  by_cases zi : L = 0
  case neg =>
    have HB : rbB 9 y e n x.toList L M = false := by simp [rbB, zi]
    have zi' : ¬ (L : Int) = 0 := by omega
    rw [HB]
    clear HB
    go_enter Try.func48, Try.ntmps48
    go_wp2_with (go_at_call 31; refine (N _).mono ?_; rintro e wx ⟨rfl, hwx⟩; obtain rfl := hwx.symm)
    go_ret
    exact ⟨by simp <;> omega, alloc_below _ _⟩
  have HB : rbB 9 y e n x.toList L M = true := by simp [rbB, zn, zt, zy, zi]
  subst zi
  rw [HB]
  clear HB
  go_enter Try.func48, Try.ntmps48
  go_wp2_with (go_at_call 31; refine (N _).mono ?_; rintro e wx ⟨rfl, hwx⟩; obtain rfl := hwx.symm)
  go_ret
  exact ⟨by simp <;> omega, alloc_below _ _⟩
set_option maxHeartbeats 4000000 in
theorem rbare_11 (k y e n : Int) (x : ByteArray) (L M : Nat) (w : World) (ia : Option Addr) (ic : Nat) (la : Option Addr) (lc : Nat) (h1 : k = 11) :
    Calls Try.prog 48 #[.agg #[.int .i64 k, .int .i64 y, .int .i64 e, .int .i64 n, .string x, .slice ia L ic, .slice la M lc]] w fun e' w' => e' = .returned (.bool (rbB k y e n x.toList L M)) ∧ Below w.heap.size w w' := by
  subst h1
  have N := fun W => rholds_any 11 W
  by_cases zn : n = 0
  case neg =>
    have HB : rbB 11 y e n x.toList L M = false := by simp [rbB, zn]
    rw [HB]
    clear HB
    go_enter Try.func48, Try.ntmps48
    go_wp2_with (go_at_call 31; refine (N _).mono ?_; rintro e wx ⟨rfl, hwx⟩; obtain rfl := hwx.symm)
    go_ret
    exact ⟨by simp <;> omega, alloc_below _ _⟩
  by_cases zt : x.toList = []
  case neg =>
    have HB : rbB 11 y e n x.toList L M = false := by simp [rbB, zt]
    rw [HB]
    clear HB
    go_enter Try.func48, Try.ntmps48
    go_wp2_with (go_at_call 31; refine (N _).mono ?_; rintro e wx ⟨rfl, hwx⟩; obtain rfl := hwx.symm)
    go_ret
    exact ⟨by simp <;> omega, alloc_below _ _⟩
  by_cases zi : L = 0
  case neg =>
    have HB : rbB 11 y e n x.toList L M = false := by simp [rbB, zi]
    have zi' : ¬ (L : Int) = 0 := by omega
    rw [HB]
    clear HB
    go_enter Try.func48, Try.ntmps48
    go_wp2_with (go_at_call 31; refine (N _).mono ?_; rintro e wx ⟨rfl, hwx⟩; obtain rfl := hwx.symm)
    go_ret
    exact ⟨by simp <;> omega, alloc_below _ _⟩
  have HB : rbB 11 y e n x.toList L M = true := by simp [rbB, zn, zt, zi]
  subst zi
  rw [HB]
  clear HB
  go_enter Try.func48, Try.ntmps48
  go_wp2_with (go_at_call 31; refine (N _).mono ?_; rintro e wx ⟨rfl, hwx⟩; obtain rfl := hwx.symm)
  go_ret
  exact ⟨by simp <;> omega, alloc_below _ _⟩
set_option maxHeartbeats 4000000 in
theorem rbare_12 (k y e n : Int) (x : ByteArray) (L M : Nat) (w : World) (ia : Option Addr) (ic : Nat) (la : Option Addr) (lc : Nat) (h1 : k = 12) :
    Calls Try.prog 48 #[.agg #[.int .i64 k, .int .i64 y, .int .i64 e, .int .i64 n, .string x, .slice ia L ic, .slice la M lc]] w fun e' w' => e' = .returned (.bool (rbB k y e n x.toList L M)) ∧ Below w.heap.size w w' := by
  subst h1
  have N := fun W => rholds_any 12 W
  by_cases zn : n = 0
  case neg =>
    have HB : rbB 12 y e n x.toList L M = false := by simp [rbB, zn]
    rw [HB]
    clear HB
    go_enter Try.func48, Try.ntmps48
    go_wp2_with (go_at_call 31; refine (N _).mono ?_; rintro e wx ⟨rfl, hwx⟩; obtain rfl := hwx.symm)
    go_ret
    exact ⟨by simp <;> omega, alloc_below _ _⟩
  by_cases zt : x.toList = []
  case neg =>
    have HB : rbB 12 y e n x.toList L M = false := by simp [rbB, zt]
    rw [HB]
    clear HB
    go_enter Try.func48, Try.ntmps48
    go_wp2_with (go_at_call 31; refine (N _).mono ?_; rintro e wx ⟨rfl, hwx⟩; obtain rfl := hwx.symm)
    go_ret
    exact ⟨by simp <;> omega, alloc_below _ _⟩
  by_cases ze : e = 0
  case neg =>
    have HB : rbB 12 y e n x.toList L M = false := by simp [rbB, ze]
    rw [HB]
    clear HB
    go_enter Try.func48, Try.ntmps48
    go_wp2_with (go_at_call 31; refine (N _).mono ?_; rintro e wx ⟨rfl, hwx⟩; obtain rfl := hwx.symm)
    go_ret
    exact ⟨by simp <;> omega, alloc_below _ _⟩
  by_cases zy : y = 0
  case neg =>
    have HB : rbB 12 y e n x.toList L M = false := by simp [rbB, zy]
    rw [HB]
    clear HB
    go_enter Try.func48, Try.ntmps48
    go_wp2_with (go_at_call 31; refine (N _).mono ?_; rintro e wx ⟨rfl, hwx⟩; obtain rfl := hwx.symm)
    go_ret
    exact ⟨by simp <;> omega, alloc_below _ _⟩
  have HB : rbB 12 y e n x.toList L M = true := by simp [rbB, zn, zt, ze, zy]
  rw [HB]
  clear HB
  go_enter Try.func48, Try.ntmps48
  go_wp2_with (go_at_call 31; refine (N _).mono ?_; rintro e wx ⟨rfl, hwx⟩; obtain rfl := hwx.symm)
  go_ret
  exact ⟨by simp <;> omega, alloc_below _ _⟩
set_option maxHeartbeats 4000000 in
theorem rbare_G (k y e n : Int) (x : ByteArray) (L M : Nat) (w : World) (ia : Option Addr) (ic : Nat) (la : Option Addr) (lc : Nat) (h1 : ¬ k = 1) (h7 : 7 < k) (h3 : 3 ≤ k) (h8 : ¬ k = 8) (h9 : ¬ k = 9) (h11 : ¬ k = 11) (h12 : ¬ k = 12) (hh : 9 ≤ k) :
    Calls Try.prog 48 #[.agg #[.int .i64 k, .int .i64 y, .int .i64 e, .int .i64 n, .string x, .slice ia L ic, .slice la M lc]] w fun e' w' => e' = .returned (.bool (rbB k y e n x.toList L M)) ∧ Below w.heap.size w w' := by
  have N := fun W => rholds_any k W
  by_cases zn : n = 0
  case neg =>
    have HB : rbB k y e n x.toList L M = false := by simp [rbB, h1, h7, h3, h8, h9, h11, h12, hh, show ¬ k ≤ 7 by omega, zn]
    rw [HB]
    clear HB
    go_enter Try.func48, Try.ntmps48
    go_wp2_with (go_at_call 31; refine (N _).mono ?_; rintro e wx ⟨rfl, hwx⟩; obtain rfl := hwx.symm)
    go_ret
    exact ⟨by simp <;> omega, alloc_below _ _⟩
  by_cases zt : x.toList = []
  case neg =>
    have HB : rbB k y e n x.toList L M = false := by simp [rbB, h1, h7, h3, h8, h9, h11, h12, hh, show ¬ k ≤ 7 by omega, zt]
    rw [HB]
    clear HB
    go_enter Try.func48, Try.ntmps48
    go_wp2_with (go_at_call 31; refine (N _).mono ?_; rintro e wx ⟨rfl, hwx⟩; obtain rfl := hwx.symm)
    go_ret
    exact ⟨by simp <;> omega, alloc_below _ _⟩
  by_cases ze : e = 0
  case neg =>
    have HB : rbB k y e n x.toList L M = false := by simp [rbB, h1, h7, h3, h8, h9, h11, h12, hh, show ¬ k ≤ 7 by omega, ze]
    rw [HB]
    clear HB
    go_enter Try.func48, Try.ntmps48
    go_wp2_with (go_at_call 31; refine (N _).mono ?_; rintro e wx ⟨rfl, hwx⟩; obtain rfl := hwx.symm)
    go_ret
    exact ⟨by simp <;> omega, alloc_below _ _⟩
  by_cases zy : y = 0
  case neg =>
    have HB : rbB k y e n x.toList L M = false := by simp [rbB, h1, h7, h3, h8, h9, h11, h12, hh, show ¬ k ≤ 7 by omega, zy]
    rw [HB]
    clear HB
    go_enter Try.func48, Try.ntmps48
    go_wp2_with (go_at_call 31; refine (N _).mono ?_; rintro e wx ⟨rfl, hwx⟩; obtain rfl := hwx.symm)
    go_ret
    exact ⟨by simp <;> omega, alloc_below _ _⟩
  by_cases zi : L = 0
  case neg =>
    have HB : rbB k y e n x.toList L M = false := by simp [rbB, h1, h7, h3, h8, h9, h11, h12, hh, show ¬ k ≤ 7 by omega, zi]
    have zi' : ¬ (L : Int) = 0 := by omega
    rw [HB]
    clear HB
    go_enter Try.func48, Try.ntmps48
    go_wp2_with (go_at_call 31; refine (N _).mono ?_; rintro e wx ⟨rfl, hwx⟩; obtain rfl := hwx.symm)
    go_ret
    exact ⟨by simp <;> omega, alloc_below _ _⟩
  have HB : rbB k y e n x.toList L M = true := by simp [rbB, h1, h7, h3, h8, h9, h11, h12, hh, show ¬ k ≤ 7 by omega, zn, zt, ze, zy, zi]
  subst zi
  rw [HB]
  clear HB
  go_enter Try.func48, Try.ntmps48
  go_wp2_with (go_at_call 31; refine (N _).mono ?_; rintro e wx ⟨rfl, hwx⟩; obtain rfl := hwx.symm)
  go_ret
  exact ⟨by simp <;> omega, alloc_below _ _⟩
set_option maxHeartbeats 4000000 in
theorem rbare_H (k y e n : Int) (x : ByteArray) (L M : Nat) (w : World) (ia : Option Addr) (ic : Nat) (la : Option Addr) (lc : Nat) (h1 : ¬ k = 1) (h3 : k < 3) (h8 : ¬ k = 8) (h9 : ¬ k = 9) (h11 : ¬ k = 11) (h12 : ¬ k = 12) (hh : k < 9) :
    Calls Try.prog 48 #[.agg #[.int .i64 k, .int .i64 y, .int .i64 e, .int .i64 n, .string x, .slice ia L ic, .slice la M lc]] w fun e' w' => e' = .returned (.bool (rbB k y e n x.toList L M)) ∧ Below w.heap.size w w' := by
  have N := fun W => rholds_any k W
  by_cases zn : n = 0
  case neg =>
    have HB : rbB k y e n x.toList L M = false := by simp [rbB, h1, h3, h8, h9, h11, h12, hh, show ¬ 3 ≤ k by omega, show ¬ 9 ≤ k by omega, zn]
    rw [HB]
    clear HB
    go_enter Try.func48, Try.ntmps48
    go_wp2_with (go_at_call 31; refine (N _).mono ?_; rintro e wx ⟨rfl, hwx⟩; obtain rfl := hwx.symm)
    go_ret
    exact ⟨by simp <;> omega, alloc_below _ _⟩
  by_cases zt : x.toList = []
  case neg =>
    have HB : rbB k y e n x.toList L M = false := by simp [rbB, h1, h3, h8, h9, h11, h12, hh, show ¬ 3 ≤ k by omega, show ¬ 9 ≤ k by omega, zt]
    rw [HB]
    clear HB
    go_enter Try.func48, Try.ntmps48
    go_wp2_with (go_at_call 31; refine (N _).mono ?_; rintro e wx ⟨rfl, hwx⟩; obtain rfl := hwx.symm)
    go_ret
    exact ⟨by simp <;> omega, alloc_below _ _⟩
  by_cases ze : e = 0
  case neg =>
    have HB : rbB k y e n x.toList L M = false := by simp [rbB, h1, h3, h8, h9, h11, h12, hh, show ¬ 3 ≤ k by omega, show ¬ 9 ≤ k by omega, ze]
    rw [HB]
    clear HB
    go_enter Try.func48, Try.ntmps48
    go_wp2_with (go_at_call 31; refine (N _).mono ?_; rintro e wx ⟨rfl, hwx⟩; obtain rfl := hwx.symm)
    go_ret
    exact ⟨by simp <;> omega, alloc_below _ _⟩
  by_cases zy : y = 0
  case neg =>
    have HB : rbB k y e n x.toList L M = false := by simp [rbB, h1, h3, h8, h9, h11, h12, hh, show ¬ 3 ≤ k by omega, show ¬ 9 ≤ k by omega, zy]
    rw [HB]
    clear HB
    go_enter Try.func48, Try.ntmps48
    go_wp2_with (go_at_call 31; refine (N _).mono ?_; rintro e wx ⟨rfl, hwx⟩; obtain rfl := hwx.symm)
    go_ret
    exact ⟨by simp <;> omega, alloc_below _ _⟩
  by_cases zi : L = 0
  case neg =>
    have HB : rbB k y e n x.toList L M = false := by simp [rbB, h1, h3, h8, h9, h11, h12, hh, show ¬ 3 ≤ k by omega, show ¬ 9 ≤ k by omega, zi]
    have zi' : ¬ (L : Int) = 0 := by omega
    rw [HB]
    clear HB
    go_enter Try.func48, Try.ntmps48
    go_wp2_with (go_at_call 31; refine (N _).mono ?_; rintro e wx ⟨rfl, hwx⟩; obtain rfl := hwx.symm)
    go_ret
    exact ⟨by simp <;> omega, alloc_below _ _⟩
  by_cases zl : M = 0
  case neg =>
    have HB : rbB k y e n x.toList L M = false := by simp [rbB, h1, h3, h8, h9, h11, h12, hh, show ¬ 3 ≤ k by omega, show ¬ 9 ≤ k by omega, zl]
    have zl' : ¬ (M : Int) = 0 := by omega
    rw [HB]
    clear HB
    go_enter Try.func48, Try.ntmps48
    go_wp2_with (go_at_call 31; refine (N _).mono ?_; rintro e wx ⟨rfl, hwx⟩; obtain rfl := hwx.symm)
    go_ret
    exact ⟨by simp <;> omega, alloc_below _ _⟩
  have HB : rbB k y e n x.toList L M = true := by simp [rbB, h1, h3, h8, h9, h11, h12, hh, show ¬ 3 ≤ k by omega, show ¬ 9 ≤ k by omega, zn, zt, ze, zy, zi, zl]
  subst zi
  subst zl
  rw [HB]
  clear HB
  go_enter Try.func48, Try.ntmps48
  go_wp2_with (go_at_call 31; refine (N _).mono ?_; rintro e wx ⟨rfl, hwx⟩; obtain rfl := hwx.symm)
  go_ret
  exact ⟨by simp <;> omega, alloc_below _ _⟩
theorem rbare_any (p : Pay) (c : Fo) (w : World) (ia : Option Addr) (ic : Nat) (la : Option Addr) (lc : Nat) :
    Calls Try.prog 48 #[val p c ia ic la lc] w fun e w' => e = .returned (.bool (rbareB p c)) ∧ Below w.heap.size w w' := by
  by_cases h1 : p.kind = 1
  · exact rbare_1 _ _ _ _ _ _ _ w ia ic la lc h1
  by_cases h8 : p.kind = 8
  · exact rbare_8 _ _ _ _ _ _ _ w ia ic la lc h8
  by_cases h9 : p.kind = 9
  · exact rbare_9 _ _ _ _ _ _ _ w ia ic la lc h9
  by_cases h11 : p.kind = 11
  · exact rbare_11 _ _ _ _ _ _ _ w ia ic la lc h11
  by_cases h12 : p.kind = 12
  · exact rbare_12 _ _ _ _ _ _ _ w ia ic la lc h12
  by_cases h3 : 3 ≤ p.kind
  · by_cases h7 : p.kind ≤ 7
    · exact rbare_37 _ _ _ _ _ _ _ w ia ic la lc h1 h3 h7 h8 h9 h11 h12 (by omega)
    · exact rbare_G _ _ _ _ _ _ _ w ia ic la lc h1 (by omega) h3 h8 h9 h11 h12 (by omega)
  · exact rbare_H _ _ _ _ _ _ _ w ia ic la lc h1 (by omega) h8 h9 h11 h12 (by omega)
end Go.Proofs.Ytikoddlidhefpaa
