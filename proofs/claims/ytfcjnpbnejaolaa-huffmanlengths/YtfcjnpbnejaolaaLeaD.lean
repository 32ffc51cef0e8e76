/-
  What the reference's table holds: the costs of all shapes of codes, depth by depth; the least of them is what the packs cost.
-/
import Derived.Test.YtfcjnpbnejaolaaCmp
namespace Go.Proofs.Ytfcjnpbnejaolaa
set_option linter.unusedVariables false
set_option linter.unusedSimpArgs false

/-- at depth d so many symbols have codes, so many rows are open, at that cost -/
def Rch (s : List Pk) (n : Nat) : Nat → Nat → Nat → Nat → Prop
  | 0, i, o, c => i = 0 ∧ o = 1 ∧ c = 0
  | d + 1, i, o, c => (i = n ∧ o = 0 ∧ Rch s n d n 0 c) ∨ ∃ i' o' k c', Rch s n d i' o' c' ∧ i' < n ∧ 1 ≤ o' ∧ k ≤ 2 * o' ∧ i = i' + k ∧ i ≤ n ∧ o = 2 * o' - k ∧ o ≤ n - i ∧ c = c' + (d + 1) * (sumT s (n - i') - sumT s (n - i))
theorem sumT_le (s : List Pk) {a b : Nat} (h : a ≤ b) : sumT s a ≤ sumT s b := by
  have := sumT_mono s a (b - a)
  rwa [show a + (b - a) = b from by omega] at this
/-- such a way, as two rows of numbers -/
def Pth (s : List Pk) (n d : Nat) (f g : Nat → Nat) (c : Nat) : Prop :=
  f 0 = 0 ∧ g 0 = 1 ∧ (∀ e, e < d → f e ≤ f (e + 1) ∧ f (e + 1) + g (e + 1) = f e + 2 * g e ∧ f (e + 1) + g (e + 1) ≤ n) ∧ c + d * sumT s (n - f d) = sumTo (fun e => sumT s (n - f e)) d
theorem rch_pth (s : List Pk) (n : Nat) (h1 : 1 ≤ n) : ∀ d i o c, Rch s n d i o c → ∃ f g, Pth s n d f g c ∧ f d = i ∧ g d = o
  | 0, i, o, c, h => by
    obtain ⟨rfl, rfl, rfl⟩ := h
    exact ⟨fun _ => 0, fun _ => 1, ⟨rfl, rfl, fun e he => by omega, by simp [sumTo]⟩, rfl, rfl⟩
  | d + 1, i, o, c, h => by
    have key : ∃ i' o' c', Rch s n d i' o' c' ∧ i' ≤ i ∧ i + o = i' + 2 * o' ∧ i + o ≤ n ∧ c + (d + 1) * sumT s (n - i) = c' + (d + 1) * sumT s (n - i') := by
      rcases h with ⟨rfl, rfl, h⟩ | ⟨i', o', k, c', hr, a1, a2, a3, rfl, a5, rfl, a7, rfl⟩
      · exact ⟨i, 0, c, h, Nat.le_refl _, by omega, by omega, rfl⟩
      · refine ⟨i', o', c', hr, by omega, by omega, by omega, ?_⟩
        have hm : sumT s (n - (i' + k)) ≤ sumT s (n - i') := sumT_le s (by omega)
        rw [Nat.add_assoc, ← Nat.mul_add]
        congr 2
        omega
    obtain ⟨i', o', c', hr, b1, b2, b3, b4⟩ := key
    obtain ⟨f, g, ⟨p0, p1, p2, p3⟩, e1, e2⟩ := rch_pth s n h1 d i' o' c' hr
    refine ⟨fun e => if e = d + 1 then i else f e, fun e => if e = d + 1 then o else g e, ⟨?_, ?_, ?_, ?_⟩, by simp, by simp⟩
    · dsimp only; rw [if_neg (by omega)]; exact p0
    · dsimp only; rw [if_neg (by omega)]; exact p1
    · intro e he
      simp only
      rcases Nat.lt_or_ge e d with h2 | h2
      · rw [if_neg (by omega), if_neg (by omega), if_neg (by omega), if_neg (by omega)]
        exact p2 e h2
      · have : e = d := by omega
        subst this
        rw [if_pos rfl, if_pos rfl, if_neg (by omega), if_neg (by omega), e1, e2]
        exact ⟨b1, b2, b3⟩
    · dsimp only
      rw [if_pos rfl, sumTo, if_neg (by omega), b4, e1]
      have e3 : sumTo (fun e => sumT s (n - if e = d + 1 then i else f e)) d = sumTo (fun e => sumT s (n - f e)) d := sumTo_congr d (fun e he => by rw [if_neg (by omega)])
      rw [e3, ← p3, e1, Nat.succ_mul]
      omega
theorem spent_sum (s : List Pk) (n L : Nat) (f : Nat → Nat) : ∀ j, j + 1 ≤ L → spent s (fun j => n - f (L - 1 - j)) j + sumTo (fun e => sumT s (n - f e)) (L - 1 - j) = sumTo (fun e => sumT s (n - f e)) L
  | 0, h => by
    obtain ⟨M, rfl⟩ : ∃ M, L = M + 1 := ⟨L - 1, by omega⟩
    rw [spent, sumTo]
    simp only [Nat.add_sub_cancel, Nat.sub_zero]
    omega
  | j + 1, h => by
    have ih := spent_sum s n L f j (by omega)
    rw [spent, ← ih, show L - 1 - j = (L - 1 - (j + 1)) + 1 from by omega, sumTo]
    omega
theorem tOf_way (s : List Pk) (n L : Nat) (f g : Nat → Nat) (c : Nat) (hp : Pth s n L f g c) (hn : 1 ≤ n) (hL : 1 ≤ L) (hf : f L = n) (hg : g L = 0) : ∀ j, j + 1 ≤ L → tOf (fun j => n - f (L - 1 - j)) j = 2 * (n - f (L - 1 - j)) - 2 * g (L - 1 - j) ∧ f (L - 1 - j) + 2 * g (L - 1 - j) ≤ n
  | 0, h => by
    obtain ⟨_, _, p2, _⟩ := hp
    have := p2 (L - 1) (by omega)
    rw [show L - 1 + 1 = L from by omega, hf, hg] at this
    rw [tOf, Nat.sub_zero]
    omega
  | j + 1, h => by
    obtain ⟨ih, ih2⟩ := tOf_way s n L f g c hp hn hL hf hg j (by omega)
    obtain ⟨_, _, p2, _⟩ := hp
    have := p2 (L - 1 - (j + 1)) (by omega)
    rw [show L - 1 - (j + 1) + 1 = L - 1 - j from by omega] at this
    rw [tOf, ih]
    omega
/-- no shape costs less than the packs -/
theorem rch_sound (s : List Pk) (hr : Ris s) (h2 : 2 ≤ s.length) (L : Nat) (hL : 1 ≤ L) (c : Nat) (h : Rch s s.length L s.length 0 c) : sumT (stp s (L - 1)) (2 * s.length - 2) ≤ c := by
  obtain ⟨f, g, hp, e1, e2⟩ := rch_pth s s.length (by omega) L _ _ c h
  have h3 := stp_least s hr (fun j => s.length - f (L - 1 - j)) (fun i => Nat.sub_le _ _) (L - 1)
  obtain ⟨t1, t2⟩ := tOf_way s s.length L f g c hp (by omega) hL e1 e2 (L - 1) (by omega)
  have h4 := spent_sum s s.length L f (L - 1) (by omega)
  rw [Nat.sub_self] at h4 t1 t2
  obtain ⟨p0, p1, _, p3⟩ := hp
  rw [p0, p1] at t1
  rw [e1, Nat.sub_self, sumT_zero, Nat.mul_zero, Nat.add_zero] at p3
  rw [sumTo, Nat.add_zero] at h4
  rw [t1, h4, ← p3] at h3
  rw [show 2 * s.length - 2 = 2 * (s.length - 0) - 2 * 1 from by omega]
  exact h3
/-- no cost is above depth times all -/
theorem rch_le (s : List Pk) (n : Nat) (hn : 1 ≤ n) (d i o c : Nat) (h : Rch s n d i o c) : c ≤ d * sumT s n := by
  obtain ⟨f, g, ⟨_, _, _, p3⟩, _, _⟩ := rch_pth s n hn d i o c h
  have : ∀ m, sumTo (fun e => sumT s (n - f e)) m ≤ m * sumT s n := by
    intro m
    induction m with
    | zero => simp [sumTo]
    | succ m ih =>
      have := sumT_le s (show n - f m ≤ n by omega)
      rw [sumTo, Nat.succ_mul]
      omega
  have := this d
  omega
theorem rch_bounds (s : List Pk) (n : Nat) (hn : 1 ≤ n) (d i o c : Nat) (h : Rch s n d i o c) : i + o ≤ n := by
  cases d with
  | zero => obtain ⟨rfl, rfl, _⟩ := h; omega
  | succ d =>
    rcases h with ⟨rfl, rfl, _⟩ | ⟨_, _, _, _, _, _, _, _, _, _, _, _, _⟩ <;> omega

/-- what is taken, step by step from the last -/
def ttO (s : List Pk) (L : Nat) : Nat → Nat
  | 0 => 2 * s.length - 2
  | e + 1 => 2 * pOf s (L - 1 - e) (ttO s L e)
def xxO (s : List Pk) (L e : Nat) : Nat := if e < L then xOf s (L - 1 - e) (ttO s L e) else 0
theorem ttO_len (s : List Pk) (h0 : ∀ p ∈ s, p.2 = false) (L : Nat) (hL : 1 ≤ L) (hn : s.length ≤ 2 ^ L) : ∀ e, e < L → ttO s L e ≤ (stp s (L - 1 - e)).length
  | 0, h => by
    have h := stp_enough s L hn (L - 1) (by omega)
    rw [show L - (L - 1) = 1 from by omega] at h
    rw [ttO, Nat.sub_zero]
    omega
  | e + 1, h => by
    have := pOf_len s (cntP_false s h0) (L - 1 - (e + 1)) (ttO s L e)
    rw [show L - 1 - (e + 1) + 1 = L - 1 - e from by omega] at this
    exact this
theorem xxO_le (s : List Pk) (h0 : ∀ p ∈ s, p.2 = false) (L : Nat) (hL : 1 ≤ L) (hn : s.length ≤ 2 ^ L) (e : Nat) : xxO s L e ≤ s.length := by
  unfold xxO
  split
  · rename_i h
    exact xOf_le s h0 _ _ (ttO_len s h0 L hL hn e h)
  · exact Nat.zero_le _
theorem xxO_fall (s : List Pk) (h0 : ∀ p ∈ s, p.2 = false) (h1 : ∀ p ∈ s, 1 ≤ p.1) (hr : Ris s) (L e : Nat) (he : e < L) : xxO s L (e + 1) ≤ xxO s L e := by
  unfold xxO
  by_cases h : e + 1 < L
  · rw [if_pos h, if_pos he, ttO]
    have := xOf_mono s h0 h1 hr (L - 1 - (e + 1)) (ttO s L e)
    rw [show L - 1 - (e + 1) + 1 = L - 1 - e from by omega] at this
    exact this
  · rw [if_neg h]; exact Nat.zero_le _
theorem xxO_parts (s : List Pk) (L e : Nat) (he : e < L) : xxO s L e + pOf s (L - 1 - e) (ttO s L e) = ttO s L e := by
  unfold xxO
  rw [if_pos he]
  have := pOf_le s (L - 1 - e) (ttO s L e)
  unfold xOf
  omega
/-- at least half of what is taken are symbols alone; and there is a row open where symbols are left -/
theorem xxO_half (s : List Pk) (h0 : ∀ p ∈ s, p.2 = false) (h1 : ∀ p ∈ s, 1 ≤ p.1) (hr : Ris s) (L : Nat) : ∀ k e, e + k + 1 = L → ttO s L e ≤ 2 * xxO s L e ∧ (0 < xxO s L e → 1 ≤ xxO s L e - ttO s L e / 2)
  | 0, e, h => by
    have hp := xxO_parts s L e (by omega)
    rw [show L - 1 - e = 0 from by omega, pOf_zero s h0] at hp
    have hev : ttO s L e % 2 = 0 := by
      cases e with
      | zero => rw [ttO]; omega
      | succ e => rw [ttO]; omega
    omega
  | k + 1, e, h => by
    obtain ⟨i1, i2⟩ := xxO_half s h0 h1 hr L k (e + 1) (by omega)
    have hp := xxO_parts s L e (by omega)
    have hf := xxO_fall s h0 h1 hr L e (by omega)
    have ht : ttO s L (e + 1) = 2 * pOf s (L - 1 - e) (ttO s L e) := rfl
    have hev : ttO s L e % 2 = 0 := by
      cases e with
      | zero => rw [ttO]; omega
      | succ e => rw [ttO]; omega
    omega
theorem xxO_zero (s : List Pk) (h0 : ∀ p ∈ s, p.2 = false) (h1 : ∀ p ∈ s, 1 ≤ p.1) (hr : Ris s) (L : Nat) (hL : 1 ≤ L) (h2 : 2 ≤ s.length) (hn : s.length ≤ 2 ^ L) : xxO s L 0 = s.length := by
  have hle := xxO_le s h0 L hL hn 0
  rcases Nat.lt_or_ge (xxO s L 0) s.length with h | h
  · exfalso
    have hd := dn_pos s h0 h1 hr L hL h2 hn _ h
    obtain ⟨M, rfl⟩ : ∃ M, L = M + 1 := ⟨L - 1, by omega⟩
    have := (dn_none s h0 h1 hr (xxO s (M + 1) 0) M (2 * s.length - 2) (by
      unfold xxO
      rw [if_pos (by omega)]
      exact Nat.le_refl _)).1
    omega
  · omega
theorem pay_xx (s : List Pk) (L : Nat) : ∀ e, e ≤ L → sumTo (fun e => sumT s (xxO s L e)) e + pay s (L - e) (ttO s L e) = pay s L (2 * s.length - 2)
  | 0, _ => by rw [sumTo, Nat.zero_add, Nat.sub_zero]; rfl
  | e + 1, h => by
    have ih := pay_xx s L e (by omega)
    rw [← ih, sumTo, show L - e = (L - (e + 1)) + 1 from by omega, pay]
    have e1 : L - (e + 1) = L - 1 - e := by omega
    have e2 : xxO s L e = ttO s L e - cntP ((stp s (L - (e + 1))).take (ttO s L e)) := by
      unfold xxO
      rw [if_pos (by omega), e1]
      rfl
    have e3 : ttO s L (e + 1) = 2 * cntP ((stp s (L - (e + 1))).take (ttO s L e)) := by rw [e1]; rfl
    rw [e3, ← e2]
    omega
/-- the packs' own shape is among them -/
theorem rch_packs (s : List Pk) (h0 : ∀ p ∈ s, p.2 = false) (h1 : ∀ p ∈ s, 1 ≤ p.1) (hr : Ris s) (L : Nat) (hL : 1 ≤ L) (h2 : 2 ≤ s.length) (hn : s.length ≤ 2 ^ L) : ∀ e, e ≤ L →
    ∃ c, Rch s s.length e (s.length - xxO s L e) (if e < L then xxO s L e - ttO s L e / 2 else 0) c ∧ c + e * sumT s (xxO s L e) = sumTo (fun e => sumT s (xxO s L e)) e
  | 0, _ => by
    have hz := xxO_zero s h0 h1 hr L hL h2 hn
    refine ⟨0, ⟨by omega, ?_, rfl⟩, by simp [sumTo]⟩
    rw [if_pos (by omega), hz, ttO]
    omega
  | e + 1, h => by
    obtain ⟨c, hc, hs⟩ := rch_packs s h0 h1 hr L hL h2 hn e (by omega)
    rw [if_pos (by omega)] at hc
    have hle := xxO_le s h0 L hL hn e
    have hle1 := xxO_le s h0 L hL hn (e + 1)
    have hf := xxO_fall s h0 h1 hr L e (by omega)
    have hh := xxO_half s h0 h1 hr L (L - 1 - e) e (by omega)
    have hp := xxO_parts s L e (by omega)
    have hev : ttO s L e % 2 = 0 := by
      cases e with
      | zero => rw [ttO]; omega
      | succ e => rw [ttO]; omega
    have hm := sumT_le s hf
    have hlast : ¬ e + 1 < L → pOf s (L - 1 - e) (ttO s L e) = 0 ∧ xxO s L (e + 1) = 0 := fun hl => by
      rw [show L - 1 - e = 0 from by omega]
      exact ⟨pOf_zero s h0 _, by unfold xxO; rw [if_neg hl]⟩
    have hnext : e + 1 < L → ttO s L (e + 1) = 2 * pOf s (L - 1 - e) (ttO s L e) ∧ ttO s L (e + 1) ≤ 2 * xxO s L (e + 1) := fun hl => ⟨rfl, (xxO_half s h0 h1 hr L (L - 1 - (e + 1)) (e + 1) (by omega)).1⟩
    by_cases hx : xxO s L e = 0
    · have hx1 : xxO s L (e + 1) = 0 := by omega
      have ht : ttO s L e = 0 := by omega
      refine ⟨c, Or.inl ⟨by omega, ?_, ?_⟩, ?_⟩
      · split
        · omega
        · rfl
      · rw [hx, ht, Nat.sub_zero] at hc
        simpa using hc
      · rw [hx1, sumTo, ← hs, hx, sumT_zero]
        simp
    · refine ⟨c + (e + 1) * (sumT s (s.length - (s.length - xxO s L e)) - sumT s (s.length - (s.length - xxO s L (e + 1)))), Or.inr ⟨s.length - xxO s L e, xxO s L e - ttO s L e / 2, xxO s L e - xxO s L (e + 1), c, hc, by omega, hh.2 (by omega), ?_, by omega, by omega, ?_, ?_, rfl⟩, ?_⟩
      · by_cases hl : e + 1 < L
        · have := hnext hl; omega
        · have := hlast hl; omega
      · by_cases hl : e + 1 < L
        · have := hnext hl
          rw [if_pos hl]
          omega
        · have := hlast hl
          rw [if_neg hl]
          omega
      · by_cases hl : e + 1 < L
        · rw [if_pos hl]; omega
        · rw [if_neg hl]; omega
      · rw [show s.length - (s.length - xxO s L e) = xxO s L e from by omega, show s.length - (s.length - xxO s L (e + 1)) = xxO s L (e + 1) from by omega, sumTo, ← hs, Nat.add_assoc, ← Nat.mul_add, show sumT s (xxO s L e) - sumT s (xxO s L (e + 1)) + sumT s (xxO s L (e + 1)) = sumT s (xxO s L e) from by omega, Nat.succ_mul]
        omega
theorem rch_complete (s : List Pk) (h0 : ∀ p ∈ s, p.2 = false) (h1 : ∀ p ∈ s, 1 ≤ p.1) (hr : Ris s) (L : Nat) (hL : 1 ≤ L) (h2 : 2 ≤ s.length) (hn : s.length ≤ 2 ^ L) :
    Rch s s.length L s.length 0 (sumT (stp s (L - 1)) (2 * s.length - 2)) := by
  obtain ⟨c, hc, hs⟩ := rch_packs s h0 h1 hr L hL h2 hn L (Nat.le_refl _)
  have hx : xxO s L L = 0 := by unfold xxO; rw [if_neg (Nat.lt_irrefl _)]
  rw [if_neg (Nat.lt_irrefl _), hx, Nat.sub_zero] at hc
  rw [hx, sumT_zero, Nat.mul_zero, Nat.add_zero] at hs
  have hp := pay_xx s L L (Nat.le_refl _)
  rw [Nat.sub_self, pay, Nat.add_zero, ← hs] at hp
  have ht := ttO_len s h0 L hL hn 0 (by omega)
  have hq := pay_sum s h0 (L - 1) (2 * s.length - 2) (by rw [Nat.sub_zero] at ht; exact ht)
  rw [show L - 1 + 1 = L from by omega, ← hp] at hq
  rw [← hq]
  exact hc
end Go.Proofs.Ytfcjnpbnejaolaa
