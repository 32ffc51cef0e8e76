/-
  The lengths that Lengths answers are complete: the plain mathematics.
-/
import Derived.Test.YtfcjnpbnejaolaaRise
import Derived.Test.YtfcjnpbnejaolaaLeaB
namespace Go.Proofs.Ytfcjnpbnejaolaa
set_option linter.unusedVariables false
set_option linter.unusedSimpArgs false

theorem cntP_cons (p : Pk) (l : List Pk) : cntP (p :: l) = (if p.2 = true then 1 else 0) + cntP l := by
  unfold cntP
  rw [List.filter_cons]
  by_cases h : p.2 = true
  · rw [if_pos h, if_pos h, List.length_cons]; omega
  · rw [if_neg h, if_neg h, Nat.zero_add]
theorem cntP_false : ∀ (l : List Pk), (∀ p ∈ l, p.2 = false) → cntP l = 0 := by
  intro l h
  unfold cntP
  rw [List.filter_eq_nil_iff.2 (fun p hp => by rw [h p hp]; simp)]
  rfl
theorem cntP_take_le (l : List Pk) (t : Nat) : cntP (l.take t) ≤ t := by
  have h1 := cntP_le (l.take t)
  rw [List.length_take] at h1
  omega
/-- a pair that is taken is lighter than the first symbol that is not -/
theorem mrg_front : ∀ (a b : List Pk) (t : Nat), (∀ p ∈ a, p.2 = false) → (∀ p ∈ b, p.2 = true) → Ris a → ∀ k, k < cntP ((mrg a b).take t) → t - cntP ((mrg a b).take t) < a.length →
    (b.getD k (0, false)).1 < (a.getD (t - cntP ((mrg a b).take t)) (0, false)).1 := by
  intro a
  induction a with
  | nil => intro b t _ _ _ k _ h; simp at h
  | cons u a ih =>
    intro b
    induction b with
    | nil =>
      intro t ha _ _ k hk _
      rw [mrg_nil2, cntP_false _ (fun p hp => ha p (List.mem_of_mem_take hp))] at hk
      omega
    | cons v b ihb =>
      intro t ha hb hr k hk hx
      cases t with
      | zero => simp [cntP] at hk
      | succ t =>
        by_cases h : v.1 < u.1
        · have e : (mrg (u :: a) (v :: b)).take (t + 1) = v :: (mrg (u :: a) b).take t := by rw [mrg_cons, if_pos h, List.take_succ_cons]
          have c : cntP (v :: (mrg (u :: a) b).take t) = 1 + cntP ((mrg (u :: a) b).take t) := by rw [cntP_cons, if_pos (hb v (by simp))]
          have hle := cntP_take_le (mrg (u :: a) b) t
          rw [e, c] at hk hx ⊢
          rw [show t + 1 - (1 + cntP ((mrg (u :: a) b).take t)) = t - cntP ((mrg (u :: a) b).take t) from by omega] at hx ⊢
          cases k with
          | zero =>
            have hm : (u :: a).getD (t - cntP ((mrg (u :: a) b).take t)) (0, false) ∈ u :: a := by
              rw [List.getD_eq_getElem?_getD, List.getElem?_eq_getElem hx]
              exact List.getElem_mem hx
            have := ris_head hr _ hm
            show v.1 < _
            omega
          | succ k => exact ihb t ha (fun p hp => hb p (by simp [hp])) hr k (by omega) hx
        · have e : (mrg (u :: a) (v :: b)).take (t + 1) = u :: (mrg a (v :: b)).take t := by rw [mrg_cons, if_neg h, List.take_succ_cons]
          have c : cntP (u :: (mrg a (v :: b)).take t) = cntP ((mrg a (v :: b)).take t) := by rw [cntP_cons, if_neg (by rw [ha u (by simp)]; simp), Nat.zero_add]
          have hle := cntP_take_le (mrg a (v :: b)) t
          rw [e, c] at hk hx ⊢
          rw [show t + 1 - cntP ((mrg a (v :: b)).take t) = (t - cntP ((mrg a (v :: b)).take t)) + 1 from by omega] at hx ⊢
          exact ih (v :: b) t (fun p hp => ha p (by simp [hp])) hb (List.pairwise_cons.1 hr).2 k hk (by simpa using hx)
/-- the symbols that are taken are the first ones -/
theorem mrg_singles : ∀ (a b : List Pk) (t : Nat), (∀ p ∈ a, p.2 = false) → (∀ p ∈ b, p.2 = true) →
    ((mrg a b).take t).filter (fun p => !p.2) = a.take (t - cntP ((mrg a b).take t)) := by
  intro a
  induction a with
  | nil =>
    intro b t _ hb
    rw [mrg_nil, List.take_nil, List.filter_eq_nil_iff]
    intro p hp
    rw [hb p (List.mem_of_mem_take hp)]
    simp
  | cons u a ih =>
    intro b
    induction b with
    | nil =>
      intro t ha _
      rw [mrg_nil2, cntP_false _ (fun p hp => ha p (List.mem_of_mem_take hp)), Nat.sub_zero, List.filter_eq_self]
      intro p hp
      rw [ha p (List.mem_of_mem_take hp)]
      rfl
    | cons v b ihb =>
      intro t ha hb
      cases t with
      | zero => simp
      | succ t =>
        by_cases h : v.1 < u.1
        · have e : (mrg (u :: a) (v :: b)).take (t + 1) = v :: (mrg (u :: a) b).take t := by rw [mrg_cons, if_pos h, List.take_succ_cons]
          have hv := hb v (by simp)
          have c : cntP (v :: (mrg (u :: a) b).take t) = 1 + cntP ((mrg (u :: a) b).take t) := by rw [cntP_cons, if_pos hv]
          have hle := cntP_take_le (mrg (u :: a) b) t
          rw [e, c, List.filter_cons, if_neg (by rw [hv]; simp), ihb t ha (fun p hp => hb p (by simp [hp]))]
          congr 1
          omega
        · have e : (mrg (u :: a) (v :: b)).take (t + 1) = u :: (mrg a (v :: b)).take t := by rw [mrg_cons, if_neg h, List.take_succ_cons]
          have hu := ha u (by simp)
          have c : cntP (u :: (mrg a (v :: b)).take t) = cntP ((mrg a (v :: b)).take t) := by rw [cntP_cons, if_neg (by rw [hu]; simp), Nat.zero_add]
          have hle := cntP_take_le (mrg a (v :: b)) t
          rw [e, c, List.filter_cons, if_pos (by rw [hu]; rfl), ih (v :: b) t (fun p hp => ha p (by simp [hp])) hb]
          rw [show t + 1 - cntP ((mrg a (v :: b)).take t) = (t - cntP ((mrg a (v :: b)).take t)) + 1 from by omega, List.take_succ_cons]
theorem stp_singles_take (s : List Pk) (h0 : ∀ p ∈ s, p.2 = false) : ∀ j t, ((stp s j).take t).filter (fun p => !p.2) = s.take (t - cntP ((stp s j).take t))
  | 0, t => by
    rw [stp, cntP_false _ (fun p hp => h0 p (List.mem_of_mem_take hp)), Nat.sub_zero, List.filter_eq_self]
    intro p hp
    rw [h0 p (List.mem_of_mem_take hp)]
    rfl
  | j + 1, t => mrg_singles s (prs (stp s j)) t h0 (prs_true _)
theorem stp_pos (s : List Pk) (h1 : ∀ p ∈ s, 1 ≤ p.1) : ∀ j, ∀ p ∈ stp s j, 1 ≤ p.1
  | 0 => h1
  | j + 1 => by
    intro p hp
    rw [stp, mrg_mem] at hp
    rcases hp with hp | hp
    · exact h1 p hp
    · have := prs_low _ 1 (stp_pos s h1 j) p hp
      omega

/-- how many symbols a step takes alone, and how many pairs -/
def pOf (s : List Pk) (j t : Nat) : Nat := cntP ((stp s j).take t)
def xOf (s : List Pk) (j t : Nat) : Nat := t - pOf s j t
theorem pOf_le (s : List Pk) (j t : Nat) : pOf s j t ≤ t := cntP_take_le _ _
theorem pOf_len (s : List Pk) (h0 : cntP s = 0) (j t : Nat) : 2 * pOf s (j + 1) t ≤ (stp s j).length := by
  have h1 := (cnt_take (stp s (j + 1)) t).1
  rw [cnt_succ s h0] at h1
  unfold pOf
  omega
theorem pOf_zero (s : List Pk) (h0 : ∀ p ∈ s, p.2 = false) (t : Nat) : pOf s 0 t = 0 := by
  unfold pOf
  rw [stp]
  exact cntP_false _ (fun p hp => h0 p (List.mem_of_mem_take hp))
/-- the numbers of symbols that are taken alone don't fall from step to step -/
theorem xOf_mono (s : List Pk) (h0 : ∀ p ∈ s, p.2 = false) (h1 : ∀ p ∈ s, 1 ≤ p.1) (hr : Ris s) (j t : Nat) : xOf s j (2 * pOf s (j + 1) t) ≤ xOf s (j + 1) t := by
  rcases Nat.lt_or_ge (xOf s (j + 1) t) (xOf s j (2 * pOf s (j + 1) t)) with h | h
  · exfalso
    have hc0 : cntP s = 0 := cntP_false s h0
    have hsing := stp_singles_take s h0 j (2 * pOf s (j + 1) t)
    have hlen := pOf_len s hc0 j t
    -- the symbol is there
    have hY : xOf s j (2 * pOf s (j + 1) t) ≤ s.length := by
      have h2 := trn_few s (s.map fun p => p.1) (by simp) hc0 j (2 * pOf s (j + 1) t) hlen
      rw [List.length_map] at h2
      unfold xOf pOf at *
      omega
    have hX : xOf s (j + 1) t < s.length := by omega
    have hmem : s[xOf s (j + 1) t] ∈ (stp s j).take (2 * pOf s (j + 1) t) := by
      have : s[xOf s (j + 1) t] ∈ s.take (2 * pOf s (j + 1) t - cntP ((stp s j).take (2 * pOf s (j + 1) t))) := List.mem_take_iff_getElem.2 ⟨xOf s (j + 1) t, by unfold xOf pOf at *; omega, rfl⟩
      rw [← hsing] at this
      exact (List.mem_filter.1 this).1
    obtain ⟨m, hm, em⟩ := List.mem_take_iff_getElem.1 hmem
    have hml : m < (stp s j).length := by omega
    have hm2 : m < 2 * pOf s (j + 1) t := by omega
    have hk : m / 2 < pOf s (j + 1) t := by omega
    have hf := mrg_front s (prs (stp s j)) t h0 (prs_true _) hr (m / 2) hk hX
    have hg := prs_get (stp s j) (m / 2) (by omega)
    rw [List.getD_eq_getElem?_getD, hg] at hf
    have hs : s.getD (t - cntP ((mrg s (prs (stp s j))).take t)) (0, false) = s[xOf s (j + 1) t] := by
      rw [List.getD_eq_getElem?_getD]
      show (s[xOf s (j + 1) t]?).getD _ = _
      rw [List.getElem?_eq_getElem hX]
      rfl
    rw [hs, ← em] at hf
    simp only [Option.getD_some] at hf
    have g1 : ∀ q, q < (stp s j).length → (stp s j).getD q (0, false) ∈ stp s j := fun q hq => by
      rw [List.getD_eq_getElem?_getD, List.getElem?_eq_getElem hq]
      exact List.getElem_mem hq
    have e0 : (stp s j).getD m (0, false) = (stp s j)[m] := by rw [List.getD_eq_getElem?_getD, List.getElem?_eq_getElem hml]; rfl
    have p0 := stp_pos s h1 j _ (g1 (2 * (m / 2)) (by omega))
    have p1 := stp_pos s h1 j _ (g1 (2 * (m / 2) + 1) (by omega))
    rw [← e0] at hf
    rcases Nat.mod_two_eq_zero_or_one m with h2 | h2
    · rw [show 2 * (m / 2) = m from by omega] at hf p0 p1
      omega
    · rw [show 2 * (m / 2) + 1 = m from by omega] at hf p1
      omega
  · exact h

/-- how many bits the i-th symbol has of j steps, and what the steps weigh -/
def dn (s : List Pk) (i : Nat) : Nat → Nat → Nat
  | 0, _ => 0
  | j + 1, t => (if i < xOf s j t then 1 else 0) + dn s i j (2 * pOf s j t)
def pwi (s : List Pk) (i : Nat) : Nat → Nat → Nat
  | 0, _ => 0
  | j + 1, t => (if i < xOf s j t then 2 ^ j else 0) + pwi s i j (2 * pOf s j t)
def pw (s : List Pk) : Nat → Nat → Nat
  | 0, _ => 0
  | j + 1, t => xOf s j t * 2 ^ j + pw s j (2 * pOf s j t)
theorem pw_all (s : List Pk) (h0 : ∀ p ∈ s, p.2 = false) : ∀ j t, pw s (j + 1) t = t * 2 ^ j
  | 0, t => by
    rw [pw, pw, xOf, pOf_zero s h0]
    omega
  | j + 1, t => by
    rw [pw, pw_all s h0 j]
    have h1 := pOf_le s (j + 1) t
    rw [Nat.pow_succ]
    have e : t = xOf s (j + 1) t + pOf s (j + 1) t := by unfold xOf; omega
    conv => rhs; rw [e]
    rw [Nat.add_mul, Nat.mul_comm 2, Nat.mul_assoc, Nat.mul_comm 2]
theorem dn_none (s : List Pk) (h0 : ∀ p ∈ s, p.2 = false) (h1 : ∀ p ∈ s, 1 ≤ p.1) (hr : Ris s) (i : Nat) : ∀ j t, xOf s j t ≤ i → dn s i (j + 1) t = 0 ∧ pwi s i (j + 1) t = 0
  | 0, t, h => by
    have hn : ¬ i < xOf s 0 t := by omega
    simp only [dn, pwi, if_neg hn]
    exact ⟨trivial, trivial⟩
  | j + 1, t, h => by
    have hm := xOf_mono s h0 h1 hr j t
    obtain ⟨e1, e2⟩ := dn_none s h0 h1 hr i j (2 * pOf s (j + 1) t) (by omega)
    have hn : ¬ i < xOf s (j + 1) t := by omega
    rw [dn, pwi, e1, e2]
    simp only [if_neg hn]
    exact ⟨trivial, trivial⟩
theorem dn_le (s : List Pk) (i : Nat) : ∀ j t, dn s i j t ≤ j
  | 0, _ => by rw [dn]; exact Nat.le_refl _
  | j + 1, t => by
    have := dn_le s i j (2 * pOf s j t)
    rw [dn]
    split <;> omega
theorem dn_pwi (s : List Pk) (h0 : ∀ p ∈ s, p.2 = false) (h1 : ∀ p ∈ s, 1 ≤ p.1) (hr : Ris s) (i : Nat) : ∀ j t, pwi s i j t + 2 ^ (j - dn s i j t) = 2 ^ j
  | 0, _ => by simp [pwi, dn]
  | j + 1, t => by
    by_cases h : i < xOf s j t
    · have ih := dn_pwi s h0 h1 hr i j (2 * pOf s j t)
      have hle := dn_le s i j (2 * pOf s j t)
      rw [pwi, dn, if_pos h, if_pos h, show j + 1 - (1 + dn s i j (2 * pOf s j t)) = j - dn s i j (2 * pOf s j t) from by omega, Nat.pow_succ]
      omega
    · obtain ⟨e1, e2⟩ := dn_none s h0 h1 hr i j t (by omega)
      rw [e1, e2]
      simp
def sumTo (f : Nat → Nat) : Nat → Nat
  | 0 => 0
  | n + 1 => sumTo f n + f n
theorem sumTo_add (f g : Nat → Nat) : ∀ n, sumTo (fun i => f i + g i) n = sumTo f n + sumTo g n
  | 0 => rfl
  | n + 1 => by
    rw [sumTo, sumTo, sumTo, sumTo_add f g n]
    omega
theorem sumTo_const (c : Nat) : ∀ n, sumTo (fun _ => c) n = n * c
  | 0 => by simp [sumTo]
  | n + 1 => by rw [sumTo, sumTo_const c n, Nat.succ_mul]
theorem sumTo_if (x c : Nat) : ∀ n, sumTo (fun i => if i < x then c else 0) n = (min x n) * c
  | 0 => by simp [sumTo]
  | n + 1 => by
    rw [sumTo, sumTo_if x c n]
    by_cases h : n < x
    · rw [if_pos h, Nat.min_eq_right (by omega), Nat.min_eq_right (by omega), Nat.succ_mul]
    · rw [if_neg h, Nat.min_eq_left (by omega), Nat.min_eq_left (by omega), Nat.add_zero]
theorem sumTo_congr {f g : Nat → Nat} : ∀ n, (∀ i, i < n → f i = g i) → sumTo f n = sumTo g n
  | 0, _ => rfl
  | n + 1, h => by rw [sumTo, sumTo, sumTo_congr n (fun i hi => h i (by omega)), h n (by omega)]
theorem xOf_le (s : List Pk) (h0 : ∀ p ∈ s, p.2 = false) (j t : Nat) (ht : t ≤ (stp s j).length) : xOf s j t ≤ s.length := by
  have h2 := trn_few s (s.map fun p => p.1) (by simp) (cntP_false s h0) j t ht
  rw [List.length_map] at h2
  unfold xOf pOf
  omega
theorem pwi_sum (s : List Pk) (h0 : ∀ p ∈ s, p.2 = false) : ∀ j t, (∀ k, j = k + 1 → t ≤ (stp s k).length) → sumTo (fun i => pwi s i j t) s.length = pw s j t
  | 0, t, _ => by
    show sumTo (fun i => 0) _ = 0
    rw [sumTo_const, Nat.mul_zero]
  | j + 1, t, h => by
    have hx := xOf_le s h0 j t (h j rfl)
    have ih := pwi_sum s h0 j (2 * pOf s j t) (fun k hk => by subst hk; exact pOf_len s (cntP_false s h0) k t)
    show sumTo (fun i => (if i < xOf s j t then 2 ^ j else 0) + pwi s i j (2 * pOf s j t)) _ = _
    rw [sumTo_add, sumTo_if, ih, Nat.min_eq_left hx, pw]
/-- the sum of what the codes weigh is all that there is -/
theorem dn_whole (s : List Pk) (h0 : ∀ p ∈ s, p.2 = false) (h1 : ∀ p ∈ s, 1 ≤ p.1) (hr : Ris s) (L : Nat) (hL : 1 ≤ L) (h2 : 2 ≤ s.length) (hn : s.length ≤ 2 ^ L) :
    sumTo (fun i => 2 ^ (L - dn s i L (2 * s.length - 2))) s.length = 2 ^ L := by
  obtain ⟨j, rfl⟩ : ∃ j, L = j + 1 := ⟨L - 1, by omega⟩
  have hlen : 2 * s.length - 2 ≤ (stp s j).length := by
    have h := stp_enough s (j + 1) hn j (by omega)
    rw [show j + 1 - j = 1 from by omega] at h
    omega
  have e1 := pwi_sum s h0 (j + 1) (2 * s.length - 2) (fun k hk => by
    have : j = k := by omega
    subst this
    exact hlen)
  have e2 := pw_all s h0 j (2 * s.length - 2)
  have e3 : sumTo (fun i => pwi s i (j + 1) (2 * s.length - 2) + 2 ^ (j + 1 - dn s i (j + 1) (2 * s.length - 2))) s.length = s.length * 2 ^ (j + 1) := by
    exact (sumTo_congr _ (fun i _ => dn_pwi s h0 h1 hr i (j + 1) _)).trans (sumTo_const _ _)
  rw [sumTo_add, e1, e2] at e3
  have e4 : s.length * 2 ^ (j + 1) = (2 * s.length - 2) * 2 ^ j + 2 ^ (j + 1) := by
    rw [Nat.pow_succ]
    obtain ⟨n, hn'⟩ : ∃ n, s.length = n + 1 := ⟨s.length - 1, by omega⟩
    rw [hn', show 2 * (n + 1) - 2 = 2 * n from by omega, Nat.add_mul, Nat.one_mul, Nat.mul_comm 2 n, Nat.mul_assoc n 2, Nat.mul_comm 2]
  omega
theorem sumTo_one_le (f : Nat → Nat) : ∀ n k, k < n → f k ≤ sumTo f n
  | 0, k, h => by omega
  | n + 1, k, h => by
    rw [sumTo]
    rcases Nat.lt_or_ge k n with h2 | h2
    · have := sumTo_one_le f n k h2
      omega
    · have : k = n := by omega
      subst this
      omega
theorem sumTo_two_le (f : Nat → Nat) : ∀ n k m, k < m → m < n → f k + f m ≤ sumTo f n
  | 0, k, m, _, h => by omega
  | n + 1, k, m, h1, h => by
    rw [sumTo]
    rcases Nat.lt_or_ge m n with h2 | h2
    · have := sumTo_two_le f n k m h1 h2
      omega
    · have : m = n := by omega
      subst this
      have := sumTo_one_le f m k h1
      omega
theorem dn_pos (s : List Pk) (h0 : ∀ p ∈ s, p.2 = false) (h1 : ∀ p ∈ s, 1 ≤ p.1) (hr : Ris s) (L : Nat) (hL : 1 ≤ L) (h2 : 2 ≤ s.length) (hn : s.length ≤ 2 ^ L) (i : Nat) (hi : i < s.length) :
    1 ≤ dn s i L (2 * s.length - 2) := by
  have e := dn_whole s h0 h1 hr L hL h2 hn
  rcases Nat.eq_zero_or_pos (dn s i L (2 * s.length - 2)) with h | h
  · exfalso
    obtain ⟨k, hk, hne⟩ : ∃ k, k < s.length ∧ k ≠ i := by
      by_cases h3 : i = 0
      · exact ⟨1, by omega, by omega⟩
      · exact ⟨0, by omega, by omega⟩
    have hp : 0 < 2 ^ (L - dn s k L (2 * s.length - 2)) := Nat.two_pow_pos _
    have e0 : 2 ^ (L - dn s i L (2 * s.length - 2)) = 2 ^ L := by rw [h, Nat.sub_zero]
    rcases Nat.lt_or_ge k i with h3 | h3
    · have := sumTo_two_le (fun i => 2 ^ (L - dn s i L (2 * s.length - 2))) s.length k i h3 hi
      omega
    · have := sumTo_two_le (fun i => 2 ^ (L - dn s i L (2 * s.length - 2))) s.length i k (by omega) hk
      omega
  · exact h

theorem mem_take_getD {sy : List Nat} (hn : sy.Nodup) {i t : Nat} (hi : i < sy.length) : sy.getD i 0 ∈ sy.take t ↔ i < t := by
  rw [getD_eq hi]
  constructor
  · intro h
    obtain ⟨k, hk, e⟩ := List.mem_take_iff_getElem.1 h
    have hk' : k < sy.length := by omega
    have : k = i := by
      rcases Nat.lt_trichotomy k i with h | h | h
      · exact absurd e (List.pairwise_iff_getElem.1 hn k i hk' hi h)
      · exact h
      · exact absurd e.symm (List.pairwise_iff_getElem.1 hn i k hi hk' h)
    omega
  · intro h
    exact List.mem_take_iff_getElem.2 ⟨i, by omega, rfl⟩
theorem back_at (s : List Pk) {sy : List Nat} (hn : sy.Nodup) (i : Nat) (hi : i < sy.length) : ∀ (j t : Nat) (ls : List Nat), (∀ x ∈ sy, x < ls.length) → (back s sy j t ls).getD (sy.getD i 0) 0 = ls.getD (sy.getD i 0) 0 + dn s i j t
  | 0, t, ls, _ => by rw [back, dn, Nat.add_zero]
  | j + 1, t, ls, hl => by
    have hnt : (sy.take (xOf s j t)).Nodup := List.Nodup.sublist (List.take_sublist _ _) hn
    have hlt : ∀ x ∈ sy.take (xOf s j t), x < ls.length := fun x hx => hl x (List.mem_of_mem_take hx)
    have ih := back_at s hn i hi j (2 * pOf s j t) (lng ls (sy.take (xOf s j t))) (fun x hx => by rw [lng_len]; exact hl x hx)
    rw [lng_at _ _ _ hnt hlt] at ih
    rw [back, dn]
    show (back s sy j (2 * pOf s j t) (lng ls (sy.take (xOf s j t)))).getD (sy.getD i 0) 0 = _
    rw [ih]
    by_cases h : i < xOf s j t
    · rw [if_pos h, if_pos ((mem_take_getD hn hi).2 h)]; omega
    · rw [if_neg h, if_neg (fun h' => h ((mem_take_getD hn hi).1 h'))]; omega
theorem back_not (s : List Pk) {sy : List Nat} (hn : sy.Nodup) (y : Nat) (hy : y ∉ sy) : ∀ (j t : Nat) (ls : List Nat), (∀ x ∈ sy, x < ls.length) → (back s sy j t ls).getD y 0 = ls.getD y 0
  | 0, t, ls, _ => by rw [back]
  | j + 1, t, ls, hl => by
    have hnt : (sy.take (xOf s j t)).Nodup := List.Nodup.sublist (List.take_sublist _ _) hn
    have hlt : ∀ x ∈ sy.take (xOf s j t), x < ls.length := fun x hx => hl x (List.mem_of_mem_take hx)
    have ih := back_not s hn y hy j (2 * pOf s j t) (lng ls (sy.take (xOf s j t))) (fun x hx => by rw [lng_len]; exact hl x hx)
    rw [lng_at _ _ _ hnt hlt, if_neg (fun h => hy (List.mem_of_mem_take h)), Nat.add_zero] at ih
    rw [back]
    exact ih
theorem back_len (s : List Pk) (sy : List Nat) : ∀ j t ls, (back s sy j t ls).length = ls.length
  | 0, _, ls => by rw [back]
  | j + 1, t, ls => by rw [back, back_len s sy j, lng_len]
theorem syms_nodup (c : List Nat) : (syms c).Nodup := (syms_perm c).nodup_iff.2 (List.Nodup.sublist List.filter_sublist List.nodup_range)
theorem sgl_ris (c : List Nat) : Ris (sgl c (syms c)) := by
  unfold Ris sgl
  rw [List.pairwise_map]
  refine (syms_sorted c).imp ?_
  intro x y h
  unfold ordB at h
  simp at h
  show c.getD x 0 ≤ c.getD y 0
  simp only [List.getD_eq_getElem?_getD]
  omega
theorem sgl_pos (c : List Nat) : ∀ p ∈ sgl c (syms c), 1 ≤ p.1 := by
  intro p hp
  obtain ⟨i, hi, rfl⟩ := List.mem_map.1 hp
  exact ((syms_mem c i).1 hi).2
theorem sgl_no (c sy : List Nat) : ∀ p ∈ sgl c sy, p.2 = false := by
  intro p hp
  obtain ⟨i, _, rfl⟩ := List.mem_map.1 hp
  rfl
theorem sumW_range (m : List Nat) : sumW m = ((List.range m.length).map fun i => one (m.getD i 0)).sum := by
  unfold sumW
  congr 1
  refine List.ext_getElem (by simp) (fun i h1 h2 => ?_)
  rw [List.length_map] at h1
  simp [List.getD, List.getElem?_eq_getElem h1]
theorem sum_filter (f : Nat → Nat) (p : Nat → Bool) (h : ∀ i, p i = false → f i = 0) : ∀ l : List Nat, (l.map f).sum = ((l.filter p).map f).sum
  | [] => rfl
  | x :: t => by
    rw [List.map_cons, List.sum_cons, sum_filter f p h t, List.filter_cons]
    by_cases hx : p x = true
    · rw [if_pos hx, List.map_cons, List.sum_cons]
    · rw [if_neg hx, h x (by simpa using hx), Nat.zero_add]
theorem sum_perm (f : Nat → Nat) {a b : List Nat} (h : a.Perm b) : (a.map f).sum = (b.map f).sum := (h.map f).sum_nat
theorem sum_sumTo (f : Nat → Nat) : ∀ l : List Nat, (l.map f).sum = sumTo (fun i => f (l.getD i 0)) l.length := by
  intro l
  refine snoc_rec (P := fun l => (l.map f).sum = sumTo (fun i => f (l.getD i 0)) l.length) rfl ?_ l
  intro m x ih
  rw [List.map_append, List.sum_append, ih, List.length_append]
  show _ = sumTo _ (m.length + 1)
  rw [sumTo]
  have e1 : sumTo (fun i => f ((m ++ [x]).getD i 0)) m.length = sumTo (fun i => f (m.getD i 0)) m.length := sumTo_congr _ (fun i hi => by simp [List.getD, List.getElem?_append_left hi])
  rw [e1]
  simp [List.getD]
/-- of two or more symbols: the lengths are complete, and those of symbols with counts alone are there -/
theorem lens_whole (c : List Nat) (L : Nat) (hL : 1 ≤ L) (h15 : L ≤ 15) (h2 : 2 ≤ (syms c).length) (hn : (syms c).length ≤ 2 ^ L) :
    wgt (lensOf c (syms c) L) = 32768 ∧ ∀ i, (lensOf c (syms c) L).getD i 0 ≤ L ∧ ((lensOf c (syms c) L).getD i 0 = 0 ↔ c.getD i 0 = 0) := by
  have hs : (sgl c (syms c)).length = (syms c).length := by simp [sgl]
  have hnd := syms_nodup c
  have hl : ∀ x ∈ syms c, x < (List.replicate c.length 0).length := fun x hx => by
    rw [List.length_replicate]
    exact some1_lt c _ x ((syms_perm c).mem_iff.1 hx)
  have e0 : lensOf c (syms c) L = back (sgl c (syms c)) (syms c) L (2 * (sgl c (syms c)).length - 2) (List.replicate c.length 0) := by
    unfold lensOf
    rw [if_neg (by omega), hs]
  have z0 : ∀ y, (List.replicate c.length 0).getD y 0 = 0 := fun y => by
    simp only [List.getD, List.getElem?_replicate]
    split <;> simp
  have hat : ∀ i, i < (syms c).length → (lensOf c (syms c) L).getD ((syms c).getD i 0) 0 = dn (sgl c (syms c)) i L (2 * (sgl c (syms c)).length - 2) := fun i hi => by
    rw [e0, back_at _ hnd i hi _ _ _ hl, z0, Nat.zero_add]
  have hnot : ∀ y, y ∉ syms c → (lensOf c (syms c) L).getD y 0 = 0 := fun y hy => by
    rw [e0, back_not _ hnd y hy _ _ _ hl, z0]
  have hpos : ∀ i, i < (syms c).length → 1 ≤ dn (sgl c (syms c)) i L (2 * (sgl c (syms c)).length - 2) := fun i hi =>
    dn_pos (sgl c (syms c)) (sgl_no c _) (sgl_pos c) (sgl_ris c) L hL (by omega) (by omega) i (by omega)
  have hcz : ∀ i, (lensOf c (syms c) L).getD i 0 ≤ L ∧ ((lensOf c (syms c) L).getD i 0 = 0 ↔ c.getD i 0 = 0) := by
    intro i
    by_cases hi : i ∈ syms c
    · obtain ⟨k, hk, ek⟩ := List.getElem_of_mem hi
      have e1 := hat k hk
      have e2 := hpos k hk
      have e3 := dn_le (sgl c (syms c)) k L (2 * (sgl c (syms c)).length - 2)
      rw [getD_eq hk, ek] at e1
      have e4 := ((syms_mem c i).1 hi).2
      rw [e1]
      exact ⟨e3, by omega⟩
    · rw [hnot i hi]
      refine ⟨Nat.zero_le _, ?_⟩
      constructor
      · intro _
        rcases Nat.eq_zero_or_pos (c.getD i 0) with h | h
        · exact h
        · exfalso
          refine hi ((syms_mem c i).2 ⟨?_, h⟩)
          rcases Nat.lt_or_ge i c.length with h3 | h3
          · exact h3
          · simp [List.getD, List.getElem?_eq_none h3] at h
      · intro _; rfl
  refine ⟨?_, hcz⟩
  have h15' : ∀ x ∈ lensOf c (syms c) L, x ≤ 15 := fun x hx => by
    obtain ⟨k, hk, rfl⟩ := List.getElem_of_mem hx
    have := (hcz k).1
    rw [getD_eq hk] at this
    omega
  have hlen : (lensOf c (syms c) L).length = c.length := by rw [e0, back_len, List.length_replicate]
  rw [wgt_sum _ h15', sumW_range, hlen]
  have e1 : (fun i => one ((lensOf c (syms c) L).getD i 0)) = fun i => one ((lensOf c (syms c) L).getD i 0) := rfl
  rw [sum_filter _ (fun i => decide (0 < c.getD i 0)) (fun i hi => by
    have hc : c.getD i 0 = 0 := by
      have := of_decide_eq_false hi
      omega
    rw [(hcz i).2.2 hc]
    rfl)]
  have e2 : ((List.range c.length).filter fun i => decide (0 < c.getD i 0)) = some1 c c.length := rfl
  rw [e2, ← sum_perm _ (syms_perm c), sum_sumTo]
  have e3 : ∀ i, i < (syms c).length → one ((lensOf c (syms c) L).getD ((syms c).getD i 0) 0) = 2 ^ (15 - L) * 2 ^ (L - dn (sgl c (syms c)) i L (2 * (sgl c (syms c)).length - 2)) := fun i hi => by
    have e4 := dn_le (sgl c (syms c)) i L (2 * (sgl c (syms c)).length - 2)
    have e5 := hpos i hi
    rw [hat i hi, one, if_neg (by omega), ← Nat.pow_add]
    congr 1
    omega
  rw [sumTo_congr _ e3]
  have e6 : ∀ n, sumTo (fun i => 2 ^ (15 - L) * 2 ^ (L - dn (sgl c (syms c)) i L (2 * (sgl c (syms c)).length - 2))) n = 2 ^ (15 - L) * sumTo (fun i => 2 ^ (L - dn (sgl c (syms c)) i L (2 * (sgl c (syms c)).length - 2))) n := by
    intro n
    induction n with
    | zero => rfl
    | succ n ih => rw [sumTo, sumTo, ih, Nat.mul_add]
  rw [e6, ← hs, dn_whole (sgl c (syms c)) (sgl_no c _) (sgl_pos c) (sgl_ris c) L hL (by omega) (by omega), ← Nat.pow_add, show 15 - L + L = 15 from by omega]
end Go.Proofs.Ytfcjnpbnejaolaa
