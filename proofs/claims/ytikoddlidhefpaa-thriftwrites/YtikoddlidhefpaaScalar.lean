/-
  The small functions: kinds, bits, signs.
-/
import Derived.Test.YtikoddlidhefpaaJ1
namespace Go.Proofs.Ytikoddlidhefpaa
open Go.ChangeShapes Go.WideShapes Go.ChangeAt Go.RowKit

def nestsB (k : Int) : Bool := k == 9 || k == 11 || k == 12
def bitsZ (k : Int) : Int := if k = 3 then 8 else if k = 4 then 16 else if k = 5 then 32 else if k = 6 ∨ k = 7 then 64 else 0
def knownB (k : Int) : Bool := k == 1 || decide (3 ≤ k) && decide (k ≤ 9) || k == 11 || k == 12
/-- a number has so many bits (8, 16, 32; else 64), with its sign -/
def fitB (n b : Int) : Bool := if b = 8 then decide (-128 ≤ n ∧ n ≤ 127) else if b = 16 then decide (-32768 ≤ n ∧ n ≤ 32767) else if b = 32 then decide (-2147483648 ≤ n ∧ n ≤ 2147483647) else true

theorem nests_any (k : Int) (w : World) : Calls Try.prog 45 #[.int .i64 k] w fun e w' => e = .returned (.bool (nestsB k)) ∧ w' = w := by
  by_cases h1 : k = 9
  · subst h1; go_enter Try.func45, Try.ntmps45; go_wp2; go_ret; exact ⟨rfl, rfl⟩
  by_cases h2 : k = 11
  · subst h2; go_enter Try.func45, Try.ntmps45; go_wp2; go_ret; exact ⟨rfl, rfl⟩
  go_enter Try.func45, Try.ntmps45
  go_wp2
  go_ret
  exact ⟨rfl, rfl⟩

theorem bitsOf_any (k : Int) (w : World) : Calls Try.prog 70 #[.int .i64 k] w fun e w' => e = .returned (.int .i64 (bitsZ k)) ∧ w' = w := by
  by_cases h1 : k = 3
  · subst h1; go_enter Try.func70, Try.ntmps70; go_wp2; go_ret; exact ⟨rfl, rfl⟩
  by_cases h2 : k = 4
  · subst h2; go_enter Try.func70, Try.ntmps70; go_wp2; go_ret; exact ⟨rfl, rfl⟩
  by_cases h3 : k = 5
  · subst h3; go_enter Try.func70, Try.ntmps70; go_wp2; go_ret; exact ⟨rfl, rfl⟩
  by_cases h4 : k = 6
  · subst h4; go_enter Try.func70, Try.ntmps70; go_wp2; go_ret; exact ⟨rfl, rfl⟩
  by_cases h5 : k = 7
  · subst h5; go_enter Try.func70, Try.ntmps70; go_wp2; go_ret; exact ⟨rfl, rfl⟩
  have e : bitsZ k = 0 := by simp [bitsZ, h1, h2, h3, h4, h5]
  rw [e]
  clear e
  go_enter Try.func70, Try.ntmps70
  go_wp2
  go_ret
  exact ⟨rfl, rfl⟩

theorem fits_8 (n : Int) (w : World) (hn : i64ok n) : Calls Try.prog 69 #[.int .i64 n, .int .i64 8] w fun e w' => e = .returned (.bool (fitB n 8)) ∧ w' = w := by
  obtain ⟨h0, h1⟩ := hn
  have e : (n / 128 == n / 9223372036854775808) = fitB n 8 := by rw [Bool.eq_iff_iff]; simp [fitB]; omega
  rw [← e]
  clear e
  go_enter Try.func69, Try.ntmps69
  go_wp2
  go_ret
  exact ⟨rfl, rfl⟩
theorem fits_16 (n : Int) (w : World) (hn : i64ok n) : Calls Try.prog 69 #[.int .i64 n, .int .i64 16] w fun e w' => e = .returned (.bool (fitB n 16)) ∧ w' = w := by
  obtain ⟨h0, h1⟩ := hn
  have e : (n / 32768 == n / 9223372036854775808) = fitB n 16 := by rw [Bool.eq_iff_iff]; simp [fitB]; omega
  rw [← e]
  clear e
  go_enter Try.func69, Try.ntmps69
  go_wp2
  go_ret
  exact ⟨rfl, rfl⟩
theorem fits_32 (n : Int) (w : World) (hn : i64ok n) : Calls Try.prog 69 #[.int .i64 n, .int .i64 32] w fun e w' => e = .returned (.bool (fitB n 32)) ∧ w' = w := by
  obtain ⟨h0, h1⟩ := hn
  have e : (n / 2147483648 == n / 9223372036854775808) = fitB n 32 := by rw [Bool.eq_iff_iff]; simp [fitB]; omega
  rw [← e]
  clear e
  go_enter Try.func69, Try.ntmps69
  go_wp2
  go_ret
  exact ⟨rfl, rfl⟩
theorem fits_64 (n : Int) (w : World) (hn : i64ok n) : Calls Try.prog 69 #[.int .i64 n, .int .i64 64] w fun e w' => e = .returned (.bool (fitB n 64)) ∧ w' = w := by
  obtain ⟨h0, h1⟩ := hn
  have e : fitB n 64 = true := by simp [fitB]
  rw [e]
  clear e
  go_enter Try.func69, Try.ntmps69
  go_wp2
  go_ret
  exact ⟨rfl, rfl⟩
theorem byteOfTruth_any (p : Pay) (c : Fo) (ia : Option Addr) (ic : Nat) (la : Option Addr) (lc : Nat) (w : World) : Calls Try.prog 53 #[val p c ia ic la lc] w fun e w' => e = .returned (.int .u8 (if p.num = 1 then 1 else 2)) ∧ Below w.heap.size w w' := by
  by_cases h : p.num = 1
  · rw [if_pos h]
    go_enter Try.func53, Try.ntmps53
    go_wp2
    go_ret
    exact ⟨rfl, (Below.refl _ w).alloc (Nat.le_refl _) _⟩
  · rw [if_neg h]
    go_enter Try.func53, Try.ntmps53
    go_wp2
    go_ret
    exact ⟨rfl, (Below.refl _ w).alloc (Nat.le_refl _) _⟩
theorem num_any (n : Int) (w : World) : Calls Try.prog 16 #[.int .i64 n] w fun e w' => e = .returned (.int .i64 n) ∧ w' = w := by
  go_enter Try.func16, Try.ntmps16
  go_wp2
  go_ret
  exact ⟨rfl, rfl⟩
theorem nests_true {k : Int} : nestsB k = true ↔ k = 9 ∨ k = 11 ∨ k = 12 := by simp [nestsB, or_assoc]
theorem known_true {k : Int} : knownB k = true ↔ k = 1 ∨ (3 ≤ k ∧ k ≤ 9) ∨ k = 11 ∨ k = 12 := by simp [knownB, or_assoc]
theorem isKind_any (k : Int) (w : World) : Calls Try.prog 90 #[.int .i64 k] w fun e w' => e = .returned (.bool (knownB k)) ∧ w' = w := by
  by_cases h1 : k = 1
  · subst h1
    go_enter Try.func90, Try.ntmps90; go_wp2; go_ret; exact ⟨rfl, rfl⟩
  by_cases h2 : k = 8
  · subst h2
    go_enter Try.func90, Try.ntmps90; go_wp2; go_ret; exact ⟨rfl, rfl⟩
  by_cases h3 : bitsZ k > 0
  · have e : knownB k = true := by
      rw [known_true]
      unfold bitsZ at h3
      repeat' split at h3
      all_goals omega
    rw [e]
    clear e
    have B := bitsOf_any k
    generalize bitsZ k = z at *
    go_enter Try.func90, Try.ntmps90
    go_wp2_with (go_at_call 70; refine (B _).mono ?_; rintro e wx ⟨rfl, hwx⟩; obtain rfl := hwx.symm)
    go_ret
    exact ⟨by simp, rfl⟩
  · have e : knownB k = nestsB k := by
      rw [Bool.eq_iff_iff, known_true, nests_true]
      unfold bitsZ at h3
      repeat' split at h3
      all_goals omega
    rw [e]
    clear e
    have B := bitsOf_any k
    have C := nests_any k
    generalize bitsZ k = z at *
    generalize nestsB k = y at *
    have h3' : z ≤ 0 := by omega
    go_enter Try.func90, Try.ntmps90
    go_wp2_with (first | (go_at_call 70; refine (B _).mono ?_; rintro e wx ⟨rfl, hwx⟩; obtain rfl := hwx.symm) | (go_at_call 45; refine (C _).mono ?_; rintro e wx ⟨rfl, hwx⟩; obtain rfl := hwx.symm))
    go_ret
    exact ⟨by simp; intro h; omega, rfl⟩
end Go.Proofs.Ytikoddlidhefpaa
