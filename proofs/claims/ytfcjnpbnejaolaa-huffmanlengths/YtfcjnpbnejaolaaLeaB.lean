/-
  What the steps' packs cost: going back pays what the first packs of the last step weigh, and no other choice of symbols by depth costs less.
-/
import Derived.Test.YtfcjnpbnejaolaaLeaA
namespace Go.Proofs.Ytfcjnpbnejaolaa
set_option linter.unusedVariables false
set_option linter.unusedSimpArgs false

theorem prs_sum : ∀ (l : List Pk) (y : Nat), 2 * y ≤ l.length → sumT (prs l) y = sumT l (2 * y)
  | l, 0, _ => by rw [Nat.mul_zero, sumT_zero, sumT_zero]
  | [], y + 1, h => by simp at h
  | [_], y + 1, h => by simp at h; omega
  | u :: v :: r, y + 1, h => by
    rw [prs, sumT_cons, prs_sum r y (by simp at h; omega), show 2 * (y + 1) = (2 * y + 1) + 1 from by omega, sumT_cons, sumT_cons]
    omega
theorem prs_low : ∀ (l : List Pk) (M : Nat), (∀ p ∈ l, M ≤ p.1) → ∀ p ∈ prs l, 2 * M ≤ p.1
  | [], M, _, p, h => by simp [prs] at h
  | [_], M, _, p, h => by simp [prs] at h
  | u :: v :: r, M, hM, p, h => by
    rw [prs] at h
    rcases List.mem_cons.1 h with h1 | h1
    · have h2 := hM u (by simp)
      have h3 := hM v (by simp)
      rw [h1]
      show 2 * M ≤ u.1 + v.1
      omega
    · exact prs_low r M (fun q hq => hM q (by simp [hq])) p h1
theorem prs_ris : ∀ l : List Pk, Ris l → Ris (prs l)
  | [], _ => by simp [prs, Ris]
  | [_], _ => by simp [prs, Ris]
  | u :: v :: r, h => by
    have h1 := List.pairwise_cons.1 h
    have h2 := List.pairwise_cons.1 h1.2
    rw [prs]
    refine List.pairwise_cons.2 ⟨fun p hp => ?_, prs_ris r h2.2⟩
    have h3 := prs_low r v.1 (fun q hq => h2.1 q hq) p hp
    have h4 := h1.1 v (by simp)
    show u.1 + v.1 ≤ p.1
    omega
theorem stp_ris (s : List Pk) (h : Ris s) : ∀ j, Ris (stp s j)
  | 0 => h
  | j + 1 => mrg_ris _ _ h (prs_ris _ (stp_ris s h j))
theorem prs_true : ∀ (l : List Pk), ∀ p ∈ prs l, p.2 = true
  | [], p, h => by simp [prs] at h
  | [_], p, h => by simp [prs] at h
  | u :: v :: r, p, h => by
    rw [prs] at h
    rcases List.mem_cons.1 h with h1 | h1
    · rw [h1]
    · exact prs_true r p h1
theorem sumT_mono : ∀ (l : List Pk) (t d : Nat), sumT l t ≤ sumT l (t + d)
  | l, 0, d => by rw [sumT_zero]; omega
  | [], t + 1, d => by
    rw [show t + 1 + d = (t + d) + 1 from by omega]
    exact Nat.le_refl _
  | u :: r, t + 1, d => by
    have := sumT_mono r t d
    rw [show t + 1 + d = (t + d) + 1 from by omega, sumT_cons, sumT_cons]
    omega
/-- what going back pays: at each step the first symbols that stand alone -/
def pay (s : List Pk) : Nat → Nat → Nat
  | 0, _ => 0
  | j + 1, t => sumT s (t - cntP ((stp s j).take t)) + pay s j (2 * cntP ((stp s j).take t))
theorem pay_sum (s : List Pk) (h0 : ∀ p ∈ s, p.2 = false) : ∀ j t, t ≤ (stp s j).length → pay s (j + 1) t = sumT (stp s j) t
  | 0, t, ht => by
    have e : cntP ((stp s 0).take t) = 0 := by
      unfold cntP
      rw [List.filter_eq_nil_iff.2 (fun p hp => by rw [h0 p (List.mem_of_mem_take hp)]; simp)]
      rfl
    rw [pay, e, pay, Nat.sub_zero, Nat.add_zero]
    rfl
  | j + 1, t, ht => by
    have hp := mrg_parts s (prs (stp s j)) t h0 (prs_true _) (by rw [stp, mrg_len] at ht; exact ht)
    obtain ⟨h1, h2, h3, h4⟩ := hp
    rw [prs_len] at h1
    have e : stp s (j + 1) = mrg s (prs (stp s j)) := rfl
    rw [pay, e, h4, prs_sum _ _ (by omega), pay_sum s h0 j _ (by omega)]
/-- how many packs of a step a choice of symbols (x i at step i) takes -/
def tOf (x : Nat → Nat) : Nat → Nat
  | 0 => x 0
  | j + 1 => x (j + 1) + tOf x j / 2
def spent (s : List Pk) (x : Nat → Nat) : Nat → Nat
  | 0 => sumT s (x 0)
  | j + 1 => sumT s (x (j + 1)) + spent s x j
theorem tOf_le (s : List Pk) (x : Nat → Nat) (hx : ∀ i, x i ≤ s.length) : ∀ j, tOf x j ≤ (stp s j).length
  | 0 => hx 0
  | j + 1 => by
    have h1 := tOf_le s x hx j
    have h2 := hx (j + 1)
    rw [tOf, stp_len_succ]
    omega
/-- no choice of symbols by depth costs less than the first packs weigh -/
theorem stp_least (s : List Pk) (hr : Ris s) (x : Nat → Nat) (hx : ∀ i, x i ≤ s.length) : ∀ j, sumT (stp s j) (tOf x j) ≤ spent s x j
  | 0 => Nat.le_refl _
  | j + 1 => by
    have h1 := stp_least s hr x hx j
    have h2 := tOf_le s x hx j
    have h3 := mrg_least s (prs (stp s j)) (x (j + 1)) (tOf x j / 2) hr (prs_ris _ (stp_ris s hr j)) (hx _) (by rw [prs_len]; omega)
    rw [prs_sum _ _ (by omega)] at h3
    have h4 := sumT_mono (stp s j) (2 * (tOf x j / 2)) (tOf x j - 2 * (tOf x j / 2))
    rw [show 2 * (tOf x j / 2) + (tOf x j - 2 * (tOf x j / 2)) = tOf x j from by omega] at h4
    rw [tOf, spent]
    have e : stp s (j + 1) = mrg s (prs (stp s j)) := rfl
    rw [e]
    omega
end Go.Proofs.Ytfcjnpbnejaolaa
