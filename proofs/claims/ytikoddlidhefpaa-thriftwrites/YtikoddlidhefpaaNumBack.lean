/-
  A number is taken as it was laid.
-/
import Derived.Test.YtikoddlidhefpaaJ4
namespace Go.Proofs.Ytikoddlidhefpaa
open Go.ChangeShapes Go.WideShapes Go.ChangeAt Go.RowKit Go.Deep

theorem rNumF_back {least most : Nat} : ∀ (g f k m s : Nat) (rest : List Nat), k < 128 ^ (g + 1) → g + 1 ≤ f → m + k * 2 ^ s ≤ most → least ≤ m + k * 2 ^ s → (s = 0 ∨ 0 < k) → rNumF least most f m s (numF g k ++ rest) = .ok (m + k * 2 ^ s, rest)
  | g, 0, _, _, _, _, _, hf, _, _, _ => by omega
  | g, f + 1, k, m, s, rest, hk, hf, hm, hl, hs => by
    have hp : 0 < 2 ^ s := Nat.pos_of_ne_zero (by simp)
    have hq : k ≤ (most - m) / 2 ^ s := by rw [Nat.le_div_iff_mul_le hp]; omega
    by_cases h : k < 128
    · have e : numF g k = [k] := by
        cases g with
        | zero => rfl
        | succ g => simp [numF, h]
      have hmod : k % 128 = k := Nat.mod_eq_of_lt h
      rw [e]
      simp only [List.cons_append, List.nil_append, rNumF, hmod]
      rw [if_neg (by omega), if_neg (by omega), if_neg (by omega)]
    · cases g with
      | zero => simp at hk; omega
      | succ g =>
        have e : numF (g + 1) k = (k % 128 + 128) :: numF g (k / 128) := by simp [numF, h]
        have hmod : (k % 128 + 128) % 128 = k % 128 := by omega
        have hsplit : m + k % 128 * 2 ^ s + k / 128 * 2 ^ (s + 7) = m + k * 2 ^ s := by
          rw [Nat.pow_add]
          have hk2 : k = k % 128 + 128 * (k / 128) := (Nat.mod_add_div k 128).symm
          generalize 2 ^ s = z at *
          generalize k / 128 = q at *
          generalize k % 128 = r at *
          subst hk2
          rw [Nat.add_mul]
          have : (2 : Nat) ^ 7 = 128 := by decide
          rw [this, Nat.mul_comm z 128, ← Nat.mul_assoc, Nat.mul_comm q 128]
          omega
        have hk' : 0 < k / 128 := Nat.div_pos (by omega) (by omega)
        have hp7 : 0 < 2 ^ (s + 7) := Nat.pos_of_ne_zero (by simp)
        have hG : k / 128 ≤ (most - (m + k % 128 * 2 ^ s)) / 2 ^ (s + 7) := by rw [Nat.le_div_iff_mul_le hp7]; omega
        have hG2 : k / 128 * 2 ^ (s + 7) ≤ (most - (m + k % 128 * 2 ^ s)) / 2 ^ (s + 7) * 2 ^ (s + 7) := Nat.mul_le_mul_right _ hG
        have ih := rNumF_back (least := least) (most := most) g f (k / 128) (m + k % 128 * 2 ^ s) (s + 7) rest (by rw [Nat.pow_succ] at hk; exact Nat.div_lt_of_lt_mul (by rw [Nat.mul_comm]; exact hk)) (by omega) (by omega) (by omega) (.inr hk')
        rw [e]
        simp only [List.cons_append, rNumF, hmod]
        have hd : k % 128 ≤ k := Nat.mod_le _ _
        rw [if_neg (by omega), if_pos (by omega), if_neg (by omega), ih, hsplit]
theorem rNum_back {least most n : Nat} (rest : List Nat) (hn : n < 18446744073709551616) (h1 : least ≤ n) (h2 : n ≤ most) : rNum least most (numB n ++ rest) = .ok (n, rest) := by
  have hp : n < 128 ^ (9 + 1) := Nat.lt_trans hn (by decide)
  have := rNumF_back (least := least) (most := most) 9 10 n 0 0 rest hp (by omega) (by simpa using h2) (by simpa using h1) (.inl rfl)
  simpa [rNum, numB] using this
theorem unzig_zig {n : Int} (h : i64ok n) : unzig (zig n) = n := by
  obtain ⟨h0, h1⟩ := h
  unfold unzig zig zz
  by_cases hs : 0 ≤ n
  · rw [if_pos hs, if_pos (by omega)]; omega
  · rw [if_neg hs, if_neg (by omega)]; omega
theorem zig_unzig (n : Nat) : zig (unzig n) = n := by
  unfold unzig zig zz
  by_cases hs : n % 2 = 0
  · rw [if_pos hs, if_pos (by omega)]; omega
  · rw [if_neg hs, if_neg (by omega)]; omega
end Go.Proofs.Ytikoddlidhefpaa
