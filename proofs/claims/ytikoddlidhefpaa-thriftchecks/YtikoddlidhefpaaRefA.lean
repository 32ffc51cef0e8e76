/-
  The reference's small functions and its Same.
-/
import Derived.Test.YtikoddlidhefpaaSame
import Derived.Deep.RegionWith
namespace Go.Proofs.Ytikoddlidhefpaa
open Go.ChangeShapes Go.WideShapes Go.ChangeAt Go.RowKit Go.Deep

theorem rholds_any (k : Int) (w : World) : Calls Try.prog 31 #[.int .i64 k] w fun e w' => e = .returned (.bool (decide (9 ≤ k))) ∧ w' = w := by
  go_enter Try.func31, Try.ntmps31
  go_wp2
  go_ret
  exact ⟨by simp, rfl⟩
theorem rknown_any (k : Int) (w : World) : Calls Try.prog 47 #[.int .i64 k] w fun e w' => e = .returned (.bool (knownB k)) ∧ w' = w := by
  by_cases h1 : k = 1
  · subst h1; go_enter Try.func47, Try.ntmps47; go_wp2; go_ret; exact ⟨rfl, rfl⟩
  by_cases h2 : k = 11
  · subst h2; go_enter Try.func47, Try.ntmps47; go_wp2; go_ret; exact ⟨rfl, rfl⟩
  by_cases h3 : k = 12
  · subst h3; go_enter Try.func47, Try.ntmps47; go_wp2; go_ret; exact ⟨rfl, rfl⟩
  by_cases h4 : 3 ≤ k
  · by_cases h5 : k ≤ 9
    · have e : knownB k = true := by rw [known_true]; omega
      rw [e]
      clear e
      go_enter Try.func47, Try.ntmps47; go_wp2; go_ret; exact ⟨by simp, rfl⟩
    · have e : knownB k = false := by rw [Bool.eq_false_iff]; intro h; rw [known_true] at h; omega
      rw [e]
      clear e
      have h5' : 9 < k := by omega
      go_enter Try.func47, Try.ntmps47; go_wp2; go_ret; exact ⟨by simp; omega, rfl⟩
  · have e : knownB k = false := by rw [Bool.eq_false_iff]; intro h; rw [known_true] at h; omega
    rw [e]
    clear e
    have h4' : k < 3 := by omega
    go_enter Try.func47, Try.ntmps47; go_wp2; go_ret; exact ⟨by simp; omega, rfl⟩
def rbitsZ (k : Int) : Int := if k = 3 then 8 else if k = 4 then 16 else if k = 5 then 32 else 64
theorem rbits_any (k : Int) (w : World) : Calls Try.prog 51 #[.int .i64 k] w fun e w' => e = .returned (.int .i64 (rbitsZ k)) ∧ w' = w := by
  by_cases h1 : k = 3
  · subst h1; go_enter Try.func51, Try.ntmps51; go_wp2; go_ret; exact ⟨rfl, rfl⟩
  by_cases h2 : k = 4
  · subst h2; go_enter Try.func51, Try.ntmps51; go_wp2; go_ret; exact ⟨rfl, rfl⟩
  by_cases h3 : k = 5
  · subst h3; go_enter Try.func51, Try.ntmps51; go_wp2; go_ret; exact ⟨rfl, rfl⟩
  have e : rbitsZ k = 64 := by simp [rbitsZ, h1, h2, h3]
  rw [e]
  clear e
  go_enter Try.func51, Try.ntmps51; go_wp2; go_ret; exact ⟨rfl, rfl⟩
theorem rfits_8 (n : Int) (w : World) : Calls Try.prog 50 #[.int .i64 n, .int .i64 8] w fun e w' => e = .returned (.bool (fitB n 8)) ∧ w' = w := by
  by_cases h : -128 ≤ n
  · go_enter Try.func50, Try.ntmps50; go_wp2; go_ret
    refine ⟨?_, rfl⟩
    simp [fitB, h]
    omega
  · have h' : n < -128 := by omega
    go_enter Try.func50, Try.ntmps50; go_wp2; go_ret
    refine ⟨?_, rfl⟩
    simp [fitB]
    omega
theorem rfits_16 (n : Int) (w : World) : Calls Try.prog 50 #[.int .i64 n, .int .i64 16] w fun e w' => e = .returned (.bool (fitB n 16)) ∧ w' = w := by
  by_cases h : -32768 ≤ n
  · go_enter Try.func50, Try.ntmps50; go_wp2; go_ret
    refine ⟨?_, rfl⟩
    simp [fitB, h]
    omega
  · have h' : n < -32768 := by omega
    go_enter Try.func50, Try.ntmps50; go_wp2; go_ret
    refine ⟨?_, rfl⟩
    simp [fitB]
    omega
theorem rfits_32 (n : Int) (w : World) : Calls Try.prog 50 #[.int .i64 n, .int .i64 32] w fun e w' => e = .returned (.bool (fitB n 32)) ∧ w' = w := by
  by_cases h : -2147483648 ≤ n
  · go_enter Try.func50, Try.ntmps50; go_wp2; go_ret
    refine ⟨?_, rfl⟩
    simp [fitB, h]
    omega
  · have h' : n < -2147483648 := by omega
    go_enter Try.func50, Try.ntmps50; go_wp2; go_ret
    refine ⟨?_, rfl⟩
    simp [fitB]
    omega
theorem rfits_64 (n : Int) (w : World) : Calls Try.prog 50 #[.int .i64 n, .int .i64 64] w fun e w' => e = .returned (.bool (fitB n 64)) ∧ w' = w := by
  go_enter Try.func50, Try.ntmps50; go_wp2; go_ret
  exact ⟨rfl, rfl⟩
end Go.Proofs.Ytikoddlidhefpaa
