/-
  What the codes keep among one another, as the law of no beginning asks it: by the model's own answers.
-/
import Derived.Test.YtkieallgompggaaRefB
namespace Go.Proofs.Ytkieallgompggaa
set_option linter.unusedVariables false

theorem find_self {m : List Nat} {i : Nat} (hi : i < m.length) (h0 : m.getD i 0 ≠ 0) :
    findS m (((codL m).getD i 0 : Nat) : Int) ((m.getD i 0 : Nat) : Int) = (i : Int) ∧ findB m (((codL m).getD i 0 : Nat) : Int) ((m.getD i 0 : Nat) : Int) = true := by
  cases hf : findP m (((codL m).getD i 0 : Nat) : Int) ((m.getD i 0 : Nat) : Int) with
  | none => exact absurd ⟨rfl, by omega, rfl⟩ (find_none_at hf hi)
  | some x =>
    obtain ⟨_, h1, h2, h3, h4⟩ := find_some_at hf
    have e2 : m.getD x.1 0 = m.getD i 0 := by omega
    have e4 : cod m x.1 = cod m i := by
      rw [codL_getD m _ h1, codL_getD m _ hi, if_neg h0, if_neg (by omega)] at h4
      omega
    have e : x.1 = i := by
      rcases Nat.lt_trichotomy x.1 i with h | h | h
      · exact absurd e4 (Nat.ne_of_lt (cod_rise m i x.1 h1 h e2))
      · exact h
      · exact absurd e4.symm (Nat.ne_of_lt (cod_rise m x.1 i hi h e2.symm))
    constructor
    · unfold findS; rw [hf]; simp [e]
    · unfold findB; rw [hf]; rfl
theorem codL_zero {m : List Nat} {i : Nat} (hi : i < m.length) (h0 : m.getD i 0 = 0) : (codL m).getD i 0 = 0 := by rw [codL_getD m _ hi, if_pos h0]
theorem codL_short {m : List Nat} {i : Nat} (h15 : ∀ j, m.getD j 0 ≤ 15) (hw : wgt m ≤ 32768) (hi : i < m.length) (h0 : m.getD i 0 ≠ 0) : ((((codL m).getD i 0 : Nat) : Int) / 2 ^ m.getD i 0 != 0) = false := by
  rw [codL_getD m _ hi, if_neg h0]
  have h := cod_lt m i hi h0 (h15 i) hw
  rw [show (2 : Int) ^ m.getD i 0 = ((2 ^ m.getD i 0 : Nat) : Int) from by simp, ← Int.natCast_ediv, Nat.div_eq_of_lt h]
  rfl
theorem codL_begin {m : List Nat} {i k : Nat} (h15 : ∀ j, m.getD j 0 ≤ 15) (hi : i < m.length) (hk : k < m.length) (h0 : m.getD i 0 ≠ 0) (hne : k ≠ i) (hle : m.getD i 0 ≤ m.getD k 0) (s : Nat) (hs : s = m.getD k 0 - m.getD i 0) :
    ((((codL m).getD k 0 : Nat) : Int) / 2 ^ s == (((codL m).getD i 0 : Nat) : Int)) = false := by
  rw [codL_getD m _ hi, codL_getD m _ hk, if_neg h0, if_neg (by omega), hs]
  have h := no_begin m h15 i k hi hk h0 hne hle
  rw [show (2 : Int) ^ (m.getD k 0 - m.getD i 0) = ((2 ^ (m.getD k 0 - m.getD i 0) : Nat) : Int) from by simp, ← Int.natCast_ediv]
  simp only [beq_eq_false_iff_ne, ne_eq]
  intro e
  exact h (Int.ofNat_inj.1 e)
theorem codL_rise {m : List Nat} {i k : Nat} (hi : i < m.length) (hki : k < i) (h0 : m.getD i 0 ≠ 0) (e : m.getD k 0 = m.getD i 0) : decide ((((codL m).getD i 0 : Nat) : Int) ≤ (((codL m).getD k 0 : Nat) : Int)) = false := by
  rw [codL_getD m _ hi, codL_getD m _ (by omega), if_neg h0, if_neg (by omega)]
  have := cod_rise m i k (by omega) hki e
  exact decide_eq_false (by omega)
theorem getD15 {m : List Nat} (h : ∀ x ∈ m, x ≤ 15) (j : Nat) : m.getD j 0 ≤ 15 := by
  by_cases hj : j < m.length
  · rw [getD_eq hj]; exact h _ (List.getElem_mem hj)
  · simp [List.getD, List.getElem?_eq_none (Nat.le_of_not_lt hj)]
end Go.Proofs.Ytkieallgompggaa
