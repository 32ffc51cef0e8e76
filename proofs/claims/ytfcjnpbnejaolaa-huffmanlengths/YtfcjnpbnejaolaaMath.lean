/-
  Codes by their lengths, as plain mathematics: what lengths weigh, the codes, that no code begins another one.
-/
import Derived.Test.YtfcjnpbnejaolaaRows
namespace Go.Proofs.Ytfcjnpbnejaolaa

/-- how many symbols have codes of that length -/
def per (m : List Nat) (j : Nat) : Nat := if j = 0 then 0 else m.count j
/-- the sum, length by length -/
def hor (m : List Nat) : Nat → Nat
  | 0 => 0
  | j + 1 => 2 * hor m j + per m j
def wgt (m : List Nat) : Nat := hor m 16
/-- a symbol's code -/
def cod (m : List Nat) (i : Nat) : Nat := 2 * hor m (m.getD i 0) + (m.take i).count (m.getD i 0)
/-- what the reference sums -/
def one (x : Nat) : Nat := if x = 0 then 0 else 2 ^ (15 - x)
def sumW (m : List Nat) : Nat := (m.map one).sum

theorem per_snoc (m : List Nat) (x j : Nat) : per (m ++ [x]) j = per m j + if x = j ∧ j ≠ 0 then 1 else 0 := by
  unfold per
  by_cases h : j = 0
  · simp [h]
  · rw [if_neg h, if_neg h, List.count_append, List.count_singleton]
    by_cases hx : x = j
    · simp [hx, h]
    · rw [if_neg (by simp [hx]), if_neg (fun e => hx e.1)]
theorem hor_snoc (m : List Nat) (x : Nat) : ∀ j, hor (m ++ [x]) j = hor m j + if x ≠ 0 ∧ x < j then 2 ^ (j - 1 - x) else 0
  | 0 => by simp [hor]
  | j + 1 => by
    rw [hor, hor, hor_snoc m x j, per_snoc]
    by_cases h0 : x = 0
    · subst h0
      rw [if_neg (by simp), if_neg (by omega), if_neg (by simp)]
      omega
    · by_cases h1 : x < j
      · rw [if_pos ⟨h0, h1⟩, if_neg (by omega), if_pos ⟨h0, by omega⟩, show j + 1 - 1 - x = (j - 1 - x) + 1 from by omega, Nat.pow_succ]
        omega
      · by_cases h2 : x = j
        · subst h2
          rw [if_neg (by omega), if_pos ⟨rfl, h0⟩, if_pos ⟨h0, by omega⟩, show x + 1 - 1 - x = 0 from by omega, Nat.pow_zero]
          omega
        · rw [if_neg (by omega), if_neg (by omega), if_neg (by omega)]
          omega
theorem hor_nil : ∀ j, hor [] j = 0
  | 0 => rfl
  | j + 1 => by rw [hor, hor_nil j]; simp [per]
theorem sumW_snoc (m : List Nat) (x : Nat) : sumW (m ++ [x]) = sumW m + one x := by simp [sumW]
/-- by induction at the end -/
theorem snoc_rec {P : List Nat → Prop} (h0 : P []) (h1 : ∀ m x, P m → P (m ++ [x])) (m : List Nat) : P m := by
  have : ∀ k, k ≤ m.length → P (m.take k) := by
    intro k
    induction k with
    | zero => intro _; simpa using h0
    | succ k ih =>
      intro hk
      rw [List.take_succ_eq_append_getElem (by omega)]
      exact h1 _ _ (ih (by omega))
  have := this m.length (Nat.le_refl _)
  rwa [List.take_length] at this
theorem wgt_sum (m : List Nat) (h : ∀ x ∈ m, x ≤ 15) : wgt m = sumW m := by
  revert h
  refine snoc_rec (P := fun m => (∀ x ∈ m, x ≤ 15) → wgt m = sumW m) ?_ ?_ m
  · intro _; simp [wgt, hor_nil, sumW]
  · intro m x ih h
    unfold wgt at ih ⊢
    rw [hor_snoc, sumW_snoc, ih (fun y hy => h y (by simp [hy]))]
    have hx := h x (by simp)
    unfold one
    by_cases h0 : x = 0
    · simp [h0]
    · rw [if_pos ⟨h0, by omega⟩, if_neg h0]
theorem hor_le (m : List Nat) (j : Nat) : hor m j ≤ m.length * 2 ^ j := by
  refine snoc_rec (P := fun m => hor m j ≤ m.length * 2 ^ j) (by simp [hor_nil]) ?_ m
  intro m x ih
  rw [hor_snoc, List.length_append, List.length_singleton, Nat.add_mul, Nat.one_mul]
  split
  · have : 2 ^ (j - 1 - x) ≤ 2 ^ j := Nat.pow_le_pow_right (by omega) (by omega)
    exact Nat.add_le_add ih this
  · exact Nat.le_trans ih (Nat.le_add_right _ _)
theorem hor_small (m : List Nat) (hl : m.length ≤ 1000) (j : Nat) (hj : j ≤ 16) : hor m j ≤ 65536000 := by
  have h1 := hor_le m j
  have h2 : 2 ^ j ≤ 2 ^ 16 := Nat.pow_le_pow_right (by omega) hj
  have h3 : m.length * 2 ^ j ≤ 1000 * 2 ^ 16 := Nat.mul_le_mul hl h2
  omega
theorem per_le (m : List Nat) (j : Nat) : per m j ≤ m.length := by
  unfold per
  split
  · omega
  · exact List.count_le_length
theorem cod_small (m : List Nat) (hl : m.length ≤ 1000) (i : Nat) (h15 : m.getD i 0 ≤ 15) : cod m i ≤ 131073000 := by
  unfold cod
  have h1 := hor_small m hl (m.getD i 0) (by omega)
  have h2 : (m.take i).count (m.getD i 0) ≤ (m.take i).length := List.count_le_length
  rw [List.length_take] at h2
  omega

/-- where the symbols of a length begin, in rows of 15 bits -/
def beg (m : List Nat) (j : Nat) : Nat := hor m j * 2 ^ (16 - j)
theorem beg_succ (m : List Nat) (j : Nat) (hj : j ≤ 15) : beg m (j + 1) = beg m j + per m j * 2 ^ (15 - j) := by
  unfold beg
  rw [hor, show 16 - (j + 1) = 15 - j from by omega, show 16 - j = (15 - j) + 1 from by omega, Nat.pow_succ, Nat.add_mul]
  have : 2 * hor m j * 2 ^ (15 - j) = hor m j * (2 ^ (15 - j) * 2) := by rw [Nat.mul_comm 2 (hor m j), Nat.mul_assoc, Nat.mul_comm 2]
  omega
theorem beg_mono (m : List Nat) : ∀ (d j : Nat), j + d ≤ 16 → beg m j ≤ beg m (j + d)
  | 0, j, _ => Nat.le_refl _
  | d + 1, j, h => by
    have h1 := beg_mono m d j (by omega)
    have h2 := beg_succ m (j + d) (by omega)
    rw [← Nat.add_assoc, h2]
    omega
theorem beg_end (m : List Nat) : beg m 16 = wgt m := by simp [beg, wgt]
/-- where a symbol begins -/
def val (m : List Nat) (i : Nat) : Nat := cod m i * 2 ^ (15 - m.getD i 0)
def wid (m : List Nat) (i : Nat) : Nat := 2 ^ (15 - m.getD i 0)
theorem val_eq (m : List Nat) (i : Nat) (h15 : m.getD i 0 ≤ 15) : val m i = beg m (m.getD i 0) + (m.take i).count (m.getD i 0) * wid m i := by
  unfold val cod beg wid
  generalize m.getD i 0 = x at *
  rw [Nat.add_mul, show 16 - x = (15 - x) + 1 from by omega, Nat.pow_succ]
  have : 2 * hor m x * 2 ^ (15 - x) = hor m x * (2 ^ (15 - x) * 2) := by rw [Nat.mul_comm 2 (hor m x), Nat.mul_assoc, Nat.mul_comm 2]
  omega
theorem getD_eq {m : List Nat} {i : Nat} (h : i < m.length) : m.getD i 0 = m[i] := by simp [List.getD, List.getElem?_eq_getElem h]
theorem take_succ_getD (m : List Nat) (i : Nat) (h : i < m.length) : m.take (i + 1) = m.take i ++ [m.getD i 0] := by
  rw [List.take_succ_eq_append_getElem h, getD_eq h]
theorem rank_succ (m : List Nat) (i x : Nat) (h : i < m.length) : (m.take (i + 1)).count x = (m.take i).count x + if m.getD i 0 = x then 1 else 0 := by
  rw [take_succ_getD m i h, List.count_append, List.count_singleton]
  by_cases e : m.getD i 0 = x
  · rw [if_pos (by rw [e]; exact beq_self_eq_true _), if_pos e]
  · rw [if_neg (by simpa using e), if_neg e]
theorem rank_mono (m : List Nat) (x : Nat) : ∀ (d i : Nat), (m.take i).count x ≤ (m.take (i + d)).count x := by
  intro d i
  exact List.Sublist.count_le x (List.take_sublist_take_left (by omega))
theorem rank_lt (m : List Nat) (i k : Nat) (h : i < m.length) (hik : i < k) : (m.take i).count (m.getD i 0) + 1 ≤ (m.take k).count (m.getD i 0) := by
  have h1 := rank_succ m i (m.getD i 0) h
  rw [if_pos rfl] at h1
  have h2 := rank_mono m (m.getD i 0) (k - (i + 1)) (i + 1)
  rw [show i + 1 + (k - (i + 1)) = k from by omega] at h2
  omega
theorem rank_per (m : List Nat) (i : Nat) (h : i < m.length) (h0 : m.getD i 0 ≠ 0) : (m.take i).count (m.getD i 0) + 1 ≤ per m (m.getD i 0) := by
  have h1 := rank_lt m i m.length h h
  rw [List.take_length] at h1
  unfold per
  rw [if_neg h0]
  exact h1
theorem val_end (m : List Nat) (i : Nat) (h : i < m.length) (h0 : m.getD i 0 ≠ 0) (h15 : m.getD i 0 ≤ 15) : val m i + wid m i ≤ beg m (m.getD i 0 + 1) := by
  rw [val_eq m i h15, beg_succ m _ h15]
  have h1 := rank_per m i h h0
  have h2 : ((m.take i).count (m.getD i 0) + 1) * wid m i ≤ per m (m.getD i 0) * wid m i := Nat.mul_le_mul_right _ h1
  rw [Nat.add_mul, Nat.one_mul] at h2
  unfold wid at *
  omega
theorem val_beg (m : List Nat) (i : Nat) (h15 : m.getD i 0 ≤ 15) : beg m (m.getD i 0) ≤ val m i := by rw [val_eq m i h15]; omega
theorem val_wgt (m : List Nat) (i : Nat) (h : i < m.length) (h0 : m.getD i 0 ≠ 0) (h15 : m.getD i 0 ≤ 15) : val m i + wid m i ≤ wgt m := by
  have h1 := val_end m i h h0 h15
  have h2 := beg_mono m (16 - (m.getD i 0 + 1)) (m.getD i 0 + 1) (by omega)
  rw [show m.getD i 0 + 1 + (16 - (m.getD i 0 + 1)) = 16 from by omega, beg_end] at h2
  omega
theorem val_before (m : List Nat) (i k : Nat) (hi : i < m.length) (h0 : m.getD i 0 ≠ 0) (h15 : m.getD i 0 ≤ 15) (k15 : m.getD k 0 ≤ 15) (h : m.getD i 0 < m.getD k 0 ∨ (m.getD i 0 = m.getD k 0 ∧ i < k)) : val m i + wid m i ≤ val m k := by
  rcases h with h | ⟨h, hik⟩
  · have h1 := val_end m i hi h0 h15
    have h2 := beg_mono m (m.getD k 0 - (m.getD i 0 + 1)) (m.getD i 0 + 1) (by omega)
    rw [show m.getD i 0 + 1 + (m.getD k 0 - (m.getD i 0 + 1)) = m.getD k 0 from by omega] at h2
    have h3 := val_beg m k k15
    omega
  · have h1 := rank_lt m i k hi hik
    rw [val_eq m i h15, val_eq m k k15, ← h]
    have hw : wid m k = wid m i := by unfold wid; rw [h]
    rw [hw]
    have h2 : ((m.take i).count (m.getD i 0) + 1) * wid m i ≤ (m.take k).count (m.getD i 0) * wid m i := Nat.mul_le_mul_right _ h1
    rw [Nat.add_mul, Nat.one_mul] at h2
    omega
/-- two symbols' rows have none in common -/
theorem val_apart (m : List Nat) (h15 : ∀ j, m.getD j 0 ≤ 15) (i k : Nat) (hi : i < m.length) (hk : k < m.length) (i0 : m.getD i 0 ≠ 0) (k0 : m.getD k 0 ≠ 0) (hne : i ≠ k) : val m i + wid m i ≤ val m k ∨ val m k + wid m k ≤ val m i := by
  rcases Nat.lt_trichotomy (m.getD i 0) (m.getD k 0) with h | h | h
  · exact .inl (val_before m i k hi i0 (h15 _) (h15 _) (.inl h))
  · rcases Nat.lt_or_ge i k with h1 | h1
    · exact .inl (val_before m i k hi i0 (h15 _) (h15 _) (.inr ⟨h, h1⟩))
    · exact .inr (val_before m k i hk k0 (h15 _) (h15 _) (.inr ⟨h.symm, by omega⟩))
  · exact .inr (val_before m k i hk k0 (h15 _) (h15 _) (.inl h))
theorem wid_pos (m : List Nat) (i : Nat) : 0 < wid m i := Nat.two_pow_pos _
/-- a row that begins with a symbol's code lies in its rows -/
theorem row_in (m : List Nat) (i r : Nat) (h : cod m i = r / wid m i) : val m i ≤ r ∧ r < val m i + wid m i := by
  have hv : val m i = cod m i * wid m i := rfl
  rw [hv, h]
  have := Nat.div_add_mod r (wid m i)
  have h2 := Nat.mod_lt r (wid_pos m i)
  rw [Nat.mul_comm] at this
  omega
theorem in_row (m : List Nat) (i r : Nat) (h1 : val m i ≤ r) (h2 : r < val m i + wid m i) : cod m i = r / wid m i := by
  have hv : val m i = cod m i * wid m i := rfl
  rw [hv] at h1 h2
  have : r / wid m i = cod m i := by
    refine Nat.div_eq_of_lt_le h1 ?_
    rw [Nat.add_mul, Nat.one_mul]
    exact h2
  exact this.symm
theorem same_row (m : List Nat) (h15 : ∀ j, m.getD j 0 ≤ 15) (i k r : Nat) (hi : i < m.length) (hk : k < m.length) (i0 : m.getD i 0 ≠ 0) (k0 : m.getD k 0 ≠ 0) (h1 : cod m i = r / wid m i) (h2 : cod m k = r / wid m k) : i = k := by
  rcases Nat.eq_or_lt_of_le (Nat.le_refl 0) with _ | _
  · by_cases hne : i = k
    · exact hne
    · have a := row_in m i r h1
      have b := row_in m k r h2
      rcases val_apart m h15 i k hi hk i0 k0 hne with h | h <;> omega
  · omega
/-- no code begins another one -/
theorem no_begin (m : List Nat) (h15 : ∀ j, m.getD j 0 ≤ 15) (i k : Nat) (hi : i < m.length) (hk : k < m.length) (i0 : m.getD i 0 ≠ 0) (hne : k ≠ i) (hle : m.getD i 0 ≤ m.getD k 0) : cod m k / 2 ^ (m.getD k 0 - m.getD i 0) ≠ cod m i := by
  intro e
  have hr : val m k / wid m i = cod m i := by
    unfold val wid
    rw [← e, show 15 - m.getD i 0 = (15 - m.getD k 0) + (m.getD k 0 - m.getD i 0) from by have := h15 k; omega, Nat.pow_add, ← Nat.div_div_eq_div_mul, Nat.mul_div_cancel _ (Nat.two_pow_pos _)]
  have a := row_in m i (val m k) hr.symm
  have hw := wid_pos m k
  have hwi := wid_pos m i
  rcases val_apart m h15 i k hi hk i0 (by omega) (fun e => hne e.symm) with h | h <;> omega
theorem cod_lt (m : List Nat) (i : Nat) (h : i < m.length) (h0 : m.getD i 0 ≠ 0) (h15 : m.getD i 0 ≤ 15) (hw : wgt m ≤ 32768) : cod m i < 2 ^ m.getD i 0 := by
  have h1 := val_wgt m i h h0 h15
  have hv : val m i + wid m i = (cod m i + 1) * wid m i := by rw [Nat.add_mul, Nat.one_mul]; rfl
  rw [hv] at h1
  have h2 : (cod m i + 1) * wid m i ≤ 2 ^ m.getD i 0 * wid m i := by
    refine Nat.le_trans (Nat.le_trans h1 hw) ?_
    unfold wid
    rw [← Nat.pow_add, show m.getD i 0 + (15 - m.getD i 0) = 15 from by omega]
    decide
  have := Nat.le_of_mul_le_mul_right h2 (wid_pos m i)
  omega
theorem cod_rise (m : List Nat) (i k : Nat) (hk : k < m.length) (hki : k < i) (e : m.getD k 0 = m.getD i 0) : cod m k < cod m i := by
  have := rank_lt m k i hk hki
  unfold cod
  rw [← e]
  omega

/-- the q-th symbol of a length -/
theorem nth_sym : ∀ (n : Nat) (m : List Nat) (L q : Nat), n ≤ m.length → q < (m.take n).count L → ∃ i, i < n ∧ m.getD i 0 = L ∧ (m.take i).count L = q
  | 0, m, L, q, _, h => by simp at h
  | n + 1, m, L, q, hn, h => by
    rw [rank_succ m n L (by omega)] at h
    by_cases hq : q < (m.take n).count L
    · obtain ⟨i, h1, h2⟩ := nth_sym n m L q (by omega) hq
      exact ⟨i, by omega, h2⟩
    · by_cases e : m.getD n 0 = L
      · rw [if_pos e] at h
        exact ⟨n, by omega, e, by omega⟩
      · rw [if_neg e] at h
        omega
/-- where a row lies, length by length -/
theorem find_len (m : List Nat) (r n : Nat) : n ≤ 16 → r < beg m n → ∃ L, L < n ∧ beg m L ≤ r ∧ r < beg m (L + 1) := by
  induction n with
  | zero => intro _ h; unfold beg at h; rw [hor, Nat.zero_mul] at h; omega
  | succ n ih =>
    intro hn h
    by_cases h1 : r < beg m n
    · obtain ⟨L, h2, h3⟩ := ih (by omega) h1
      exact ⟨L, by omega, h3⟩
    · exact ⟨n, by omega, by omega, h⟩
/-- each row ahead of the weight begins with a code -/
theorem covered (m : List Nat) (r : Nat) (h : r < wgt m) : ∃ i, i < m.length ∧ m.getD i 0 ≠ 0 ∧ m.getD i 0 ≤ 15 ∧ cod m i = r / wid m i := by
  rw [← beg_end] at h
  obtain ⟨L, hL, h1, h2⟩ := find_len m r 16 (Nat.le_refl _) h
  rw [beg_succ m L (by omega)] at h2
  have hL0 : L ≠ 0 := by
    intro e
    have hp : per m L = 0 := by unfold per; rw [if_pos e]
    rw [hp, Nat.zero_mul] at h2
    omega
  have hw : 0 < 2 ^ (15 - L) := Nat.two_pow_pos _
  have hq : (r - beg m L) / 2 ^ (15 - L) < per m L := by
    rw [Nat.div_lt_iff_lt_mul hw]
    omega
  have hp : per m L = (m.take m.length).count L := by rw [List.take_length]; unfold per; rw [if_neg hL0]
  rw [hp] at hq
  obtain ⟨i, hi, e, hr⟩ := nth_sym m.length m L _ (Nat.le_refl _) hq
  refine ⟨i, hi, by omega, by omega, in_row m i r ?_ ?_⟩
  · rw [val_eq m i (by omega), e, hr]
    have : wid m i = 2 ^ (15 - L) := by unfold wid; rw [e]
    rw [this]
    have := Nat.div_mul_le_self (r - beg m L) (2 ^ (15 - L))
    omega
  · rw [val_eq m i (by omega), e, hr]
    have : wid m i = 2 ^ (15 - L) := by unfold wid; rw [e]
    rw [this]
    have h3 := Nat.div_add_mod (r - beg m L) (2 ^ (15 - L))
    have h4 := Nat.mod_lt (r - beg m L) hw
    rw [Nat.mul_comm] at h3
    omega
end Go.Proofs.Ytfcjnpbnejaolaa
