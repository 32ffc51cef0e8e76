/-
  How many packages there are, and how many are taken.
-/
import Derived.Test.YtfcjnpbnejaolaaMathP
namespace Go.Proofs.Ytfcjnpbnejaolaa

theorem cntP_mrg : ∀ a b : List Pk, cntP (mrg a b) = cntP a + cntP b := by
  intro a
  induction a with
  | nil => intro b; simp [mrg, cntP]
  | cons x a ih =>
    intro b
    induction b with
    | nil => simp [mrg_nil2, cntP]
    | cons y b ihb =>
      rw [mrg_cons]
      have c1 : ∀ (p : Pk) (l : List Pk), cntP (p :: l) = cntP [p] + cntP l := fun p l => by rw [← cntP_append]; rfl
      split
      · rw [c1, ihb, c1 y b]; omega
      · rw [c1, ih, c1 x a]; omega
theorem cntP_prs : ∀ l : List Pk, cntP (prs l) = (prs l).length
  | [] => by simp [prs, cntP]
  | [_] => by simp [prs, cntP]
  | x :: y :: t => by
    have h := cntP_prs t
    unfold cntP at *
    rw [prs, List.filter_cons, if_pos rfl, List.length_cons, h, List.length_cons]
theorem cntP_sgl (c sy : List Nat) : cntP (sgl c sy) = 0 := by
  unfold cntP sgl
  rw [List.length_eq_zero_iff, List.filter_eq_nil_iff]
  intro p hp
  obtain ⟨x, _, rfl⟩ := List.mem_map.1 hp
  simp
theorem stp_len_succ (s : List Pk) (j : Nat) : (stp s (j + 1)).length = s.length + (stp s j).length / 2 := by rw [stp, mrg_len, prs_len]
theorem cnt_succ (s : List Pk) (h0 : cntP s = 0) (j : Nat) : cntP (stp s (j + 1)) = (stp s j).length / 2 := by rw [stp, cntP_mrg, h0, cntP_prs, prs_len]; omega
theorem stp_singles (s : List Pk) (h0 : cntP s = 0) : ∀ j, (stp s j).length = s.length + cntP (stp s j)
  | 0 => by simp [stp, h0]
  | j + 1 => by rw [cnt_succ s h0, stp_len_succ]
theorem stp_enough (s : List Pk) (L : Nat) (hL : s.length ≤ 2 ^ L) : ∀ j, j ≤ L → 2 * s.length ≤ (stp s j).length + 2 ^ (L - j)
  | 0, _ => by simp [stp]; omega
  | j + 1, hj => by
    have ih := stp_enough s L hL j (by omega)
    rw [stp_len_succ]
    rw [show L - j = (L - (j + 1)) + 1 from by omega, Nat.pow_succ] at ih
    generalize 2 ^ (L - (j + 1)) = q at *
    omega
theorem cnt_take (l : List Pk) (t : Nat) : cntP (l.take t) ≤ cntP l ∧ (l.take t).length + cntP l ≤ l.length + cntP (l.take t) := by
  have h1 : cntP l = cntP (l.take t) + cntP (l.drop t) := by rw [← cntP_append, List.take_append_drop]
  have h2 := cntP_le (l.drop t)
  have h3 : l.length = (l.take t).length + (l.drop t).length := by rw [← List.length_append, List.take_append_drop]
  omega

/-- what is taken, and the lengths, behind k steps -/
def trn (s : List Pk) (sy : List Nat) (limit : Nat) (ls : List Nat) : Nat → Nat × List Nat
  | 0 => (2 * sy.length - 2, ls)
  | k + 1 => (2 * cntP ((stp s (limit - 1 - k)).take (trn s sy limit ls k).1), lng (trn s sy limit ls k).2 (sy.take ((trn s sy limit ls k).1 - cntP ((stp s (limit - 1 - k)).take (trn s sy limit ls k).1))))
theorem trn_back (s : List Pk) (sy : List Nat) (limit : Nat) (ls : List Nat) : ∀ k, k ≤ limit → back s sy (limit - k) (trn s sy limit ls k).1 (trn s sy limit ls k).2 = back s sy limit (2 * sy.length - 2) ls
  | 0, _ => rfl
  | k + 1, hk => by
    rw [← trn_back s sy limit ls k (by omega), show limit - k = (limit - (k + 1)) + 1 from by omega, back, show limit - (k + 1) = limit - 1 - k from by omega]
    rfl
theorem trn_end (s : List Pk) (sy : List Nat) (limit : Nat) (ls : List Nat) : (trn s sy limit ls limit).2 = back s sy limit (2 * sy.length - 2) ls := by
  have := trn_back s sy limit ls limit (Nat.le_refl _)
  rw [Nat.sub_self, back] at this
  exact this
theorem trn_ok (s : List Pk) (sy : List Nat) (limit : Nat) (ls : List Nat) (hs : s.length = sy.length) (h0 : cntP s = 0) (hn : sy.length ≤ 2 ^ limit) (k : Nat) (hk : k < limit) :
    (trn s sy limit ls k).1 ≤ (stp s (limit - 1 - k)).length := by
  cases k with
  | zero =>
    have h := stp_enough s limit (by omega) (limit - 1) (by omega)
    rw [show limit - (limit - 1) = 1 from by omega] at h
    show 2 * sy.length - 2 ≤ _
    rw [show limit - 1 - 0 = limit - 1 from by omega]
    omega
  | succ k =>
    show 2 * cntP _ ≤ _
    have h1 := (cnt_take (stp s (limit - 1 - k)) (trn s sy limit ls k).1).1
    rw [show limit - 1 - k = (limit - 1 - (k + 1)) + 1 from by omega] at h1 ⊢
    rw [cnt_succ s h0] at h1
    omega
theorem trn_few (s : List Pk) (sy : List Nat) (hs : s.length = sy.length) (h0 : cntP s = 0) (k : Nat) (t : Nat) (ht : t ≤ (stp s k).length) :
    t ≤ sy.length + cntP ((stp s k).take t) := by
  have h1 := (cnt_take (stp s k) t).2
  have h2 := stp_singles s h0 k
  rw [List.length_take] at h1
  omega
theorem trn_len (s : List Pk) (sy : List Nat) (limit : Nat) (ls : List Nat) : ∀ k, (trn s sy limit ls k).2.length = ls.length
  | 0 => rfl
  | k + 1 => by
    show (lng _ _).length = _
    rw [lng_len, trn_len s sy limit ls k]
theorem trn_bound (s : List Pk) (sy : List Nat) (limit n : Nat) (hn : sy.length ≤ 1000) : ∀ k i, (trn s sy limit (List.replicate n 0) k).2.getD i 0 ≤ 1000 * k
  | 0, i => by
    show (List.replicate n 0).getD i 0 ≤ _
    simp only [List.getD, List.getElem?_replicate]
    split <;> simp
  | k + 1, i => by
    have h := lng_bound (sy.take ((trn s sy limit (List.replicate n 0) k).1 - cntP ((stp s (limit - 1 - k)).take (trn s sy limit (List.replicate n 0) k).1))) (1000 * k) _ (trn_bound s sy limit n hn k) i
    rw [List.length_take] at h
    show (lng _ _).getD i 0 ≤ _
    omega
end Go.Proofs.Ytfcjnpbnejaolaa
