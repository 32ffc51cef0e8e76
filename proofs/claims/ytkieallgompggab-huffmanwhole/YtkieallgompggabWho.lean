/-
  Rows of 15 bits: which lengths have a code that a row begins with, and how many.
-/
import Derived.Test.YtkieallgompggabBeg
namespace Go.Proofs.Ytkieallgompggab
set_option linter.unusedVariables false

/-- does a code of this length begin the row? -/
def fc (m : List Nat) (r L : Nat) : Bool := findB m ((r / 2 ^ (15 - L) : Nat) : Int) (L : Int)
/-- of the lengths below k, of how many -/
def cntF (m : List Nat) (r : Nat) : Nat → Nat
  | 0 => 0
  | k + 1 => cntF m r k + if 1 ≤ k ∧ fc m r k = true then 1 else 0

theorem fc_some {m : List Nat} {r L : Nat} (h : fc m r L = true) : ∃ i, i < m.length ∧ m.getD i 0 = L ∧ m.getD i 0 ≠ 0 ∧ cod m i = r / wid m i := by
  unfold fc findB at h
  cases hf : findP m ((r / 2 ^ (15 - L) : Nat) : Int) (L : Int) with
  | none => rw [hf] at h; cases h
  | some x =>
    obtain ⟨_, h1, h2, h3, h4⟩ := find_some_at hf
    have e2 : m.getD x.1 0 = L := by omega
    have e0 : m.getD x.1 0 ≠ 0 := by omega
    refine ⟨x.1, h1, e2, e0, ?_⟩
    rw [codL_getD m _ h1, if_neg e0] at h4
    unfold wid
    rw [e2]
    exact Int.ofNat_inj.1 h4
theorem fc_of {m : List Nat} {r i : Nat} (hi : i < m.length) (h0 : m.getD i 0 ≠ 0) (h : cod m i = r / wid m i) : fc m r (m.getD i 0) = true := by
  unfold fc findB
  cases hf : findP m ((r / 2 ^ (15 - m.getD i 0) : Nat) : Int) ((m.getD i 0 : Nat) : Int) with
  | some x => rfl
  | none =>
    refine absurd ⟨rfl, by omega, ?_⟩ (find_none_at hf hi)
    rw [codL_getD m _ hi, if_neg h0, h]
    rfl
theorem fc_one {m : List Nat} (h15 : ∀ j, m.getD j 0 ≤ 15) {r L K : Nat} (h1 : fc m r L = true) (h2 : fc m r K = true) : L = K := by
  obtain ⟨i, hi, e1, i0, ci⟩ := fc_some h1
  obtain ⟨k, hk, e2, k0, ck⟩ := fc_some h2
  have := same_row m h15 i k r hi hk i0 k0 ci ck
  rw [← e1, ← e2, this]
theorem cntF_le {m : List Nat} (h15 : ∀ j, m.getD j 0 ≤ 15) (r : Nat) : ∀ k, cntF m r k ≤ 1 ∧ (cntF m r k = 1 → ∃ L, L < k ∧ fc m r L = true)
  | 0 => ⟨by simp [cntF], by simp [cntF]⟩
  | k + 1 => by
    obtain ⟨h1, h2⟩ := cntF_le h15 r k
    rw [cntF]
    by_cases h : 1 ≤ k ∧ fc m r k = true
    · rw [if_pos h]
      have h3 : cntF m r k = 0 := by
        rcases Nat.eq_zero_or_pos (cntF m r k) with h4 | h4
        · exact h4
        · obtain ⟨L, hL, hf⟩ := h2 (by omega)
          have := fc_one h15 hf h.2
          omega
      exact ⟨by omega, fun _ => ⟨k, by omega, h.2⟩⟩
    · rw [if_neg h]
      refine ⟨by omega, fun h5 => ?_⟩
      obtain ⟨L, hL, hf⟩ := h2 (by omega)
      exact ⟨L, by omega, hf⟩
theorem cntF_pos {m : List Nat} {r L : Nat} (h1 : 1 ≤ L) (hf : fc m r L = true) : ∀ k, L < k → 1 ≤ cntF m r k
  | 0, h => by omega
  | k + 1, h => by
    rw [cntF]
    by_cases e : L = k
    · rw [← e, if_pos ⟨h1, hf⟩]; omega
    · have := cntF_pos h1 hf k (by omega)
      omega
theorem cntF_whole {m : List Nat} (h15 : ∀ j, m.getD j 0 ≤ 15) {r : Nat} (hr : r < 32768) (hw : wgt m = 32768) : cntF m r 16 = 1 := by
  obtain ⟨i, hi, h0, h15', hc⟩ := covered m r (by omega)
  have h1 := cntF_pos (by omega) (fc_of hi h0 hc) 16 (by omega)
  have h2 := (cntF_le h15 r 16).1
  omega
theorem shr_nat (r s : Nat) : (r : Int) / 2 ^ s = ((r / 2 ^ s : Nat) : Int) := by
  rw [show (2 : Int) ^ s = ((2 ^ s : Nat) : Int) from by simp, Int.natCast_ediv]
theorem refC_of {l : List Int} (h1 : refu 15 l = 0) (h2 : ¬ (32768 : Int) < weiV l) : refC l = 0 ∧ weiV l = (wgt (l.map Int.toNat) : Nat) := by
  unfold weiV at *
  rw [if_neg (fun h => h h1)] at h2 ⊢
  refine ⟨?_, rfl⟩
  unfold refC
  rw [if_neg (fun h => h h1), if_neg (by omega)]
end Go.Proofs.Ytkieallgompggab
