/-
  Lengths rise as counts fall, and twice the counts have the same lengths: of the plain function that Lengths answers.
-/
import Derived.Test.YtfcjnpbnejaolaaLenI
namespace Go.Proofs.Ytfcjnpbnejaolaa
set_option linter.unusedVariables false
set_option linter.unusedSimpArgs false

/-- a pack of twice the counts -/
def dbl (p : Pk) : Pk := (2 * p.1, p.2)
theorem mrg_dbl : ∀ a b : List Pk, mrg (a.map dbl) (b.map dbl) = (mrg a b).map dbl := by
  intro a
  induction a with
  | nil => intro b; simp [mrg]
  | cons x a ih =>
    intro b
    induction b with
    | nil => simp [mrg_nil2]
    | cons y b ihb =>
      rw [List.map_cons, List.map_cons, mrg_cons, mrg_cons]
      by_cases h : y.1 < x.1
      · rw [if_pos h, if_pos (show (dbl y).1 < (dbl x).1 by unfold dbl; simp; omega), List.map_cons, ← ihb, List.map_cons]
      · rw [if_neg h, if_neg (show ¬ (dbl y).1 < (dbl x).1 by unfold dbl; simp; omega), List.map_cons, ← ih, List.map_cons]
theorem prs_dbl : ∀ l : List Pk, prs (l.map dbl) = (prs l).map dbl
  | [] => rfl
  | [_] => rfl
  | x :: y :: t => by
    simp only [List.map_cons, prs]
    rw [prs_dbl t]
    simp [dbl, Nat.mul_add]
theorem stp_dbl (s : List Pk) : ∀ j, stp (s.map dbl) j = (stp s j).map dbl
  | 0 => rfl
  | j + 1 => by rw [stp, stp, stp_dbl s j, prs_dbl, mrg_dbl]
theorem cntP_dbl (l : List Pk) : cntP (l.map dbl) = cntP l := by
  induction l with
  | nil => rfl
  | cons x t ih =>
    unfold cntP at *
    rw [List.map_cons, List.filter_cons, List.filter_cons]
    by_cases h : x.2 = true
    · rw [if_pos h, if_pos (show (dbl x).2 = true from h), List.length_cons, List.length_cons, ih]
    · rw [if_neg h, if_neg (show ¬ (dbl x).2 = true from h), ih]
theorem back_dbl (s : List Pk) (sy : List Nat) : ∀ j t ls, back (s.map dbl) sy j t ls = back s sy j t ls
  | 0, _, _ => rfl
  | j + 1, t, ls => by rw [back, back, stp_dbl, ← List.map_take, cntP_dbl, back_dbl s sy j]
def twi (c : List Nat) : List Nat := c.map (2 * ·)
theorem twi_len (c : List Nat) : (twi c).length = c.length := by simp [twi]
theorem twi_getD (c : List Nat) (i : Nat) : (twi c).getD i 0 = 2 * c.getD i 0 := by
  unfold twi
  by_cases h : i < c.length
  · simp [List.getD, List.getElem?_eq_getElem h]
  · simp [List.getD, List.getElem?_eq_none (Nat.le_of_not_lt h)]
theorem sgl_twi (c sy : List Nat) : sgl (twi c) sy = (sgl c sy).map dbl := by
  unfold sgl
  rw [List.map_map]
  refine List.map_congr_left fun i _ => ?_
  show (((twi c).getD i 0, false) : Pk) = (2 * c.getD i 0, false)
  rw [twi_getD]
theorem some1_twi (c : List Nat) (k : Nat) : some1 (twi c) k = some1 c k := by
  unfold some1
  refine List.filter_congr fun i _ => ?_
  rw [twi_getD]
  congr 1
  apply propext
  constructor <;> intro h <;> omega
theorem ordB_twi (c : List Nat) (x y : Nat) : ordB (twi c) x y = ordB c x y := by
  unfold ordB
  rw [twi_getD, twi_getD]
  congr 1
  apply propext
  constructor <;> intro h <;> omega
theorem syms_twi (c : List Nat) : syms (twi c) = syms c := by
  refine syms_eq ?_ ?_
  · simp only [ordB_twi]
    exact syms_sorted c
  · rw [twi_len, some1_twi]
    exact (syms_perm c).symm
theorem lensOf_twi (c : List Nat) (limit : Nat) : lensOf (twi c) (syms (twi c)) limit = lensOf c (syms c) limit := by
  unfold lensOf
  rw [syms_twi, twi_len, sgl_twi, back_dbl]

/-- along the row of symbols the lengths don't rise -/
def Fall (ls sy : List Nat) : Prop := ∀ p q, p < q → q < sy.length → ls.getD (sy.getD q 0) 0 ≤ ls.getD (sy.getD p 0) 0
theorem lng_at : ∀ (pre ls : List Nat) (i : Nat), pre.Nodup → (∀ x ∈ pre, x < ls.length) → (lng ls pre).getD i 0 = ls.getD i 0 + if i ∈ pre then 1 else 0 := by
  intro pre
  induction pre with
  | nil => intro ls i _ _; simp [lng]
  | cons x t ih =>
    intro ls i hn hl
    have hx := hl x (by simp)
    have hnn := List.nodup_cons.1 hn
    have e : lng ls (x :: t) = lng (ls.set x (ls.getD x 0 + 1)) t := rfl
    rw [e, ih _ i hnn.2 (fun y hy => by rw [List.length_set]; exact hl y (by simp [hy]))]
    by_cases h : i = x
    · subst h
      have h1 : (ls.set i (ls.getD i 0 + 1)).getD i 0 = ls.getD i 0 + 1 := by
        simp [List.getD, List.getElem?_set, hx]
      rw [h1, if_neg hnn.1, if_pos (by simp)]
    · have h1 : (ls.set x (ls.getD x 0 + 1)).getD i 0 = ls.getD i 0 := by
        simp [List.getD, List.getElem?_set, Ne.symm h]
      rw [h1]
      by_cases h2 : i ∈ t
      · rw [if_pos h2, if_pos (by simp [h2])]
      · rw [if_neg h2, if_neg (by simp [h, h2])]
theorem take_up {sy : List Nat} {t p q : Nat} (hn : sy.Nodup) (hpq : p < q) (hq : q < sy.length) (h : sy.getD q 0 ∈ sy.take t) : sy.getD p 0 ∈ sy.take t := by
  have hp : p < sy.length := by omega
  rw [getD_eq hq] at h
  rw [getD_eq hp]
  obtain ⟨k, hk, e⟩ := List.mem_take_iff_getElem.1 h
  have hk' : k < sy.length := by omega
  have : k = q := by
    rcases Nat.lt_trichotomy k q with h | h | h
    · exact absurd e (List.pairwise_iff_getElem.1 hn k q hk' hq h)
    · exact h
    · exact absurd e.symm (List.pairwise_iff_getElem.1 hn q k hq hk' h)
  exact List.mem_take_iff_getElem.2 ⟨p, by omega, rfl⟩
theorem fall_lng {ls sy : List Nat} (hn : sy.Nodup) (hl : ∀ x ∈ sy, x < ls.length) (h : Fall ls sy) (t : Nat) : Fall (lng ls (sy.take t)) sy := by
  intro p q hpq hq
  have hnt : (sy.take t).Nodup := List.Nodup.sublist (List.take_sublist _ _) hn
  have hlt : ∀ x ∈ sy.take t, x < ls.length := fun x hx => hl x (List.mem_of_mem_take hx)
  rw [lng_at _ _ _ hnt hlt, lng_at _ _ _ hnt hlt]
  have h1 := h p q hpq hq
  by_cases h2 : sy.getD q 0 ∈ sy.take t
  · rw [if_pos h2, if_pos (take_up hn hpq hq h2)]; omega
  · rw [if_neg h2]; split <;> omega
theorem fall_back (s : List Pk) {sy : List Nat} (hn : sy.Nodup) : ∀ (j t : Nat) (ls : List Nat), (∀ x ∈ sy, x < ls.length) → Fall ls sy → Fall (back s sy j t ls) sy
  | 0, _, ls, _, h => h
  | j + 1, t, ls, hl, h => by
    rw [back]
    exact fall_back s hn j _ _ (fun x hx => by rw [lng_len]; exact hl x hx) (fall_lng hn hl h _)
theorem fall_lens (c : List Nat) (limit : Nat) : Fall (lensOf c (syms c) limit) (syms c) := by
  have hn : (syms c).Nodup := (syms_perm c).nodup_iff.2 (List.Nodup.sublist List.filter_sublist List.nodup_range)
  have hl : ∀ x ∈ syms c, x < (List.replicate c.length 0).length := fun x hx => by
    rw [List.length_replicate]
    exact some1_lt c _ x ((syms_perm c).mem_iff.1 hx)
  have h0 : Fall (List.replicate c.length 0) (syms c) := by
    intro p q _ _
    simp [List.getD, List.getElem?_replicate]
    split <;> simp
  unfold lensOf
  split
  · have := fall_lng hn hl h0 (syms c).length
    rwa [List.take_length] at this
  · exact fall_back _ hn _ _ _ hl h0
theorem syms_mem (c : List Nat) (i : Nat) : i ∈ syms c ↔ (i < c.length ∧ 0 < c.getD i 0) := by
  rw [(syms_perm c).mem_iff]
  unfold some1
  simp
theorem lens_rise (c : List Nat) (limit i k : Nat) (hi : c.getD k 0 < c.getD i 0) (hk : 0 < c.getD k 0) : (lensOf c (syms c) limit).getD i 0 ≤ (lensOf c (syms c) limit).getD k 0 := by
  have inl : ∀ j, 0 < c.getD j 0 → j ∈ syms c := fun j hj => (syms_mem c j).2 ⟨by
    rcases Nat.lt_or_ge j c.length with h | h
    · exact h
    · simp [List.getD, List.getElem?_eq_none h] at hj, hj⟩
  obtain ⟨q, hq, eq⟩ := List.getElem_of_mem (inl i (by omega))
  obtain ⟨p, hp, ep⟩ := List.getElem_of_mem (inl k hk)
  have hpq : p < q := by
    rcases Nat.lt_trichotomy p q with h | h | h
    · exact h
    · subst h; rw [eq] at ep; subst ep; omega
    · have := List.pairwise_iff_getElem.1 (syms_sorted c) q p hq hp h
      rw [eq, ep] at this
      rw [show ordB c k i = true from decide_eq_true (Or.inl hi)] at this
      cases this
  have h := fall_lens c limit p q hpq hq
  rw [getD_eq hq, getD_eq hp, eq, ep] at h
  exact h
end Go.Proofs.Ytfcjnpbnejaolaa
