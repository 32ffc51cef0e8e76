/-
  The reference: Open.
-/
import Derived.Test.YtkkignjenjdjiaaRefB
import Derived.Test.YtkkignjenjdjiaaRdF
namespace Go.Proofs.Ytkkignjenjdjiaa
set_option linter.unusedVariables false
set_option linter.unusedSimpArgs false
open Go.ChangeShapes Go.WideShapes Go.ChangeAt Go.RowKit

theorem sLow_rLow (k : Nat) (l : List Nat) : sLow k l = if (rLow k l).2 then .ok ((rLow k l).1, l.drop k) else .error 6 := by
  unfold sLow rLow
  split <;> simp
theorem rLow_len {k : Nat} {l : List Nat} (h : (rLow k l).2 = true) : k ≤ l.length := by
  unfold rLow at h
  split at h
  · cases h
  · omega

/-- a part that bytes follow -/
theorem sPart_bytes {size : Nat} {made r : List Nat} {b p n back next : Nat} {ok : Bool} (h0 : b % 4 = 0) (h : rPart p (b :: r) = (n, back, next, ok)) :
    sPart size made (b :: r) = (if ok = false then .error 6 else if size < made.length + n then .error 8 else if r.length + 1 < next - p + n then .error 6 else .ok (made ++ ((b :: r).drop (next - p)).take n, (b :: r).drop (next - p + n))) ∧ (ok = true → p < next ∧ next - p ≤ r.length + 1 ∧ 1 ≤ n) := by
  simp only [rPart, if_pos h0] at h
  simp only [sPart, if_pos h0, sMore]
  by_cases h6 : b / 4 < 60
  · rw [if_pos h6] at h ⊢
    cases h
    have e : p + 1 - p = 1 := by omega
    rw [e]
    refine ⟨?_, fun _ => ⟨by omega, by omega, by omega⟩⟩
    simp only [Bool.true_eq_false, if_false, sBytes]
    by_cases hs : size < made.length + (b / 4 + 1)
    · rw [if_pos hs, if_pos hs]
    rw [if_neg hs, if_neg hs]
    by_cases hl : r.length < b / 4 + 1
    · rw [if_pos hl, if_pos (by omega)]
    · rw [if_neg hl, if_neg (by omega)]
      rw [show 1 + (b / 4 + 1) = (b / 4 + 1) + 1 by omega]
      simp
  · rw [if_neg h6] at h ⊢
    cases h
    rw [sLow_rLow]
    cases hk : (rLow (b / 4 - 59) r).2 with
    | false => simp
    | true =>
      have hle := rLow_len hk
      have e : p + 1 + (b / 4 - 59) - p = (b / 4 - 59) + 1 := by omega
      rw [e]
      refine ⟨?_, fun _ => ⟨by omega, by omega, by omega⟩⟩
      simp only [if_true, Bool.true_eq_false, if_false, sBytes, List.length_drop]
      generalize (rLow (b / 4 - 59) r).1 = m
      by_cases hs : size < made.length + (m + 1)
      · rw [if_pos hs, if_pos hs]
      rw [if_neg hs, if_neg hs]
      by_cases hl : r.length - (b / 4 - 59) < m + 1
      · rw [if_pos hl, if_pos (by omega)]
      · rw [if_neg hl, if_neg (by omega)]
        rw [show b / 4 - 59 + 1 + (m + 1) = (b / 4 - 59 + (m + 1)) + 1 by omega]
        simp [List.drop_drop]
theorem sFrom_r {size : Nat} {made r : List Nat} {k n far : Nat} : sFrom size made k n far r = if (rLow k r).2 = false then .error 6 else if (far + (rLow k r).1 = 0 ∨ made.length < far + (rLow k r).1) ∨ size < made.length + n then .error 8 else .ok (cpy (far + (rLow k r).1) n made, r.drop k) := by
  unfold sFrom
  rw [sLow_rLow]
  cases hk : (rLow k r).2 with
  | false => simp
  | true =>
    simp only [if_true, Bool.true_eq_false, if_false, sCopy]
    by_cases h1 : far + (rLow k r).1 = 0 ∨ made.length < far + (rLow k r).1
    · rw [if_pos h1, if_pos (.inl h1)]
    · rw [if_neg h1]
      by_cases h2 : size < made.length + n
      · rw [if_pos h2, if_pos (.inr h2)]
      · rw [if_neg h2, if_neg (by omega)]
/-- a part that copies -/
theorem sPart_copy {size : Nat} {made r : List Nat} {b p n back next : Nat} {ok : Bool} (h0 : ¬ b % 4 = 0) (h : rPart p (b :: r) = (n, back, next, ok)) :
    sPart size made (b :: r) = (if ok = false then .error 6 else if (back = 0 ∨ made.length < back) ∨ size < made.length + n then .error 8 else .ok (cpy back n made, (b :: r).drop (next - p))) ∧ (ok = true → p < next ∧ next - p ≤ r.length + 1 ∧ 1 ≤ n) := by
  simp only [rPart, if_neg h0] at h
  simp only [sPart, if_neg h0]
  by_cases h1 : b % 4 = 1
  · rw [if_pos h1] at h ⊢
    cases h
    rw [sFrom_r]
    refine ⟨?_, fun hk => ?_⟩
    · rw [show p + 2 - p = 1 + 1 by omega]
      simp only [List.drop_succ_cons]
    · have := rLow_len hk
      omega
  rw [if_neg h1] at h ⊢
  by_cases h2 : b % 4 = 2
  · rw [if_pos h2] at h ⊢
    cases h
    rw [sFrom_r]
    refine ⟨?_, fun hk => ?_⟩
    · rw [show p + 3 - p = 2 + 1 by omega]
      simp only [List.drop_succ_cons, Nat.zero_add]
    · have := rLow_len hk
      omega
  · rw [if_neg h2] at h ⊢
    cases h
    rw [sFrom_r]
    refine ⟨?_, fun hk => ?_⟩
    · rw [show p + 5 - p = 4 + 1 by omega]
      simp only [List.drop_succ_cons, Nat.zero_add]
    · have := rLow_len hk
      omega
end Go.Proofs.Ytkkignjenjdjiaa
