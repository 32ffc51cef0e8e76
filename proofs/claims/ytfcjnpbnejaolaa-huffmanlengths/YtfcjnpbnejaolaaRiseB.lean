/-
  Twice the counts: lengths, refusals and costs, as the law of rising lengths asks them.
-/
import Derived.Test.YtfcjnpbnejaolaaRise
import Derived.Test.YtfcjnpbnejaolaaWorks
namespace Go.Proofs.Ytfcjnpbnejaolaa
set_option linter.unusedVariables false
set_option linter.unusedSimpArgs false

theorem lenR_nm {l : List Int} {limit : Int} (h : lenR l limit = 0) : ∃ m : List Nat, l = nm m ∧ (∀ x ∈ m, x ≤ 2147483647) ∧ 1 ≤ limit ∧ limit ≤ 15 ∧ l.length ≤ 1000 := by
  unfold lenR at h
  by_cases h1 : limit < 1 ∨ 15 < limit
  · rw [if_pos h1] at h; omega
  · rw [if_neg h1] at h
    by_cases h2 : refu 2147483647 l = 0
    · obtain ⟨h3, m, h4, h5⟩ := refu_ok h2
      exact ⟨m, h4, fun x hx => by have := h5 x hx; omega, by omega, by omega, h3⟩
    · rw [if_pos h2] at h; exact absurd h h2
theorem lenV_twi (m : List Nat) (limit : Int) : lenV (nm (twi m)) limit = lenV (nm m) limit := by
  unfold lenV
  rw [nm_toNat, nm_toNat, lensOf_twi]
theorem lenV_nm (m : List Nat) (limit : Int) : lenV (nm m) limit = lensOf m (syms m) limit.toNat := by
  unfold lenV
  rw [nm_toNat]
theorem refu_nm {m : List Nat} (h : ∀ x ∈ m, x ≤ 2147483647) (hl : m.length ≤ 1000) : refu 2147483647 (nm m) = 0 := by
  unfold refu
  have h1 : (nm m).any (bad 2147483647) = false := by
    rw [List.any_eq_false]
    intro x hx
    obtain ⟨n, hn, rfl⟩ := List.mem_map.1 hx
    have := h n hn
    unfold bad
    simp
    omega
  rw [h1, if_neg (by simp), if_neg (by rw [nm_len]; omega)]
theorem lenR_twi {m : List Nat} {limit : Int} (h : lenR (nm m) limit = 0) (hm : ∀ x ∈ m, x ≤ 1000000000) : lenR (nm (twi m)) limit = 0 := by
  have hl : m.length ≤ 1000 := by
    obtain ⟨_, _, _, _, _, h5⟩ := lenR_nm h
    rwa [nm_len] at h5
  unfold lenR at *
  rw [nm_toNat] at *
  rw [syms_twi]
  have e1 : refu 2147483647 (nm m) = 0 := refu_nm (fun x hx => by have := hm x hx; omega) hl
  have e2 : refu 2147483647 (nm (twi m)) = 0 := refu_nm (fun x hx => by
    obtain ⟨y, hy, rfl⟩ := List.mem_map.1 hx
    have := hm y hy
    show 2 * y ≤ _
    omega) (by rw [twi_len]; exact hl)
  rw [e1] at h
  rw [e2]
  exact h
theorem lens_bound (m : List Nat) (limit : Nat) (hl : m.length ≤ 1000) (hL : limit ≤ 15) (i : Nat) : (lensOf m (syms m) limit).getD i 0 ≤ 15000 := by
  have hs : (syms m).length ≤ 1000 := by
    rw [syms_len]
    have := some1_len m m.length
    omega
  unfold lensOf
  split
  · have := lng_bound (syms m) 0 (List.replicate m.length 0) (fun i => by simp only [List.getD, List.getElem?_replicate]; split <;> simp) i
    omega
  · rw [← trn_end]
    have := trn_bound (sgl m (syms m)) (syms m) limit m.length hs limit i
    omega
theorem smK_twi (m v : List Nat) : ∀ k, smK (nm (twi m)) (nm v) k = 2 * smK (nm m) (nm v) k
  | 0 => rfl
  | k + 1 => by
    rw [smK, smK, smK_twi m v k, nm_getD, nm_getD, nm_getD, twi_getD]
    simp only [Int.toNat_natCast]
    rw [Nat.mul_add, Nat.mul_assoc]
theorem smK_le (m v : List Nat) (hm : ∀ i, m.getD i 0 ≤ 1000000000) (hv : ∀ i, v.getD i 0 ≤ 15000) : ∀ k, smK (nm m) (nm v) k ≤ k * 15000000000000
  | 0 => Nat.le_refl _
  | k + 1 => by
    have h := smK_le m v hm hv k
    rw [smK, nm_getD, nm_getD]
    simp only [Int.toNat_natCast]
    have h2 := Nat.mul_le_mul (hm k) (hv k)
    rw [Nat.add_mul]
    omega
theorem cost_twi (m v : List Nat) (hl : m.length ≤ 1000) (hm : ∀ i, m.getD i 0 ≤ 1000000000) (hv : ∀ i, v.getD i 0 ≤ 15000) : costV (nm (twi m)) (nm v) = 2 * costV (nm m) (nm v) ∧ 0 ≤ costV (nm m) (nm v) ∧ costV (nm m) (nm v) ≤ 1000000000000000000 := by
  have h := smK_le m v hm hv (min m.length v.length)
  unfold costV
  rw [nm_len, nm_len, nm_len, twi_len, smK_twi]
  have h2 : min m.length v.length * 15000000000000 ≤ 1000 * 15000000000000 := Nat.mul_le_mul_right _ (by omega)
  omega
theorem getD_le {m : List Nat} {M : Nat} (h : ∀ x ∈ m, x ≤ M) (i : Nat) : m.getD i 0 ≤ M := by
  by_cases hj : i < m.length
  · rw [getD_eq hj]; exact h _ (List.getElem_mem hj)
  · simp [List.getD, List.getElem?_eq_none (Nat.le_of_not_lt hj)]
theorem twi_snoc (m : List Nat) (j : Nat) (h : j < m.length) : twi (m.take (j + 1)) = twi (m.take j) ++ [2 * m.getD j 0] := by
  rw [take_succ_getD m j h]
  simp [twi]
end Go.Proofs.Ytfcjnpbnejaolaa
