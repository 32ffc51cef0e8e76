/-
  The cost of the lengths that Lengths answers is what the first packs of the last step weigh.
-/
import Derived.Test.YtfcjnpbnejaolaaLeaB
import Derived.Test.YtfcjnpbnejaolaaLenI
namespace Go.Proofs.Ytfcjnpbnejaolaa
set_option linter.unusedVariables false
set_option linter.unusedSimpArgs false

theorem set_getD (ls : List Nat) (x v k : Nat) (hx : x < ls.length) : (ls.set x v).getD k 0 = if k = x then v else ls.getD k 0 := by
  by_cases h : k = x
  · subst h; simp [List.getD, hx]
  · simp [List.getD, List.getElem?_set, h, Ne.symm h]
theorem smK_set (c ls : List Nat) (x : Nat) (hx : x < ls.length) : ∀ k, smK (nm c) (nm (ls.set x (ls.getD x 0 + 1))) k = smK (nm c) (nm ls) k + if x < k then c.getD x 0 else 0
  | 0 => by simp [smK]
  | k + 1 => by
    rw [smK, smK, smK_set c ls x hx k, nm_getD, nm_getD, nm_getD, set_getD _ _ _ _ hx]
    simp only [Int.toNat_natCast]
    by_cases h : k = x
    · subst h
      rw [if_pos rfl, if_neg (Nat.lt_irrefl _), if_pos (Nat.lt_succ_self _), Nat.mul_add, Nat.mul_one]
      omega
    · rw [if_neg h]
      by_cases h2 : x < k
      · rw [if_pos h2, if_pos (by omega)]; omega
      · rw [if_neg h2, if_neg (by omega)]; omega
theorem smK_lng (c : List Nat) (k : Nat) : ∀ (pre ls : List Nat), (∀ x ∈ pre, x < ls.length ∧ x < k) → smK (nm c) (nm (lng ls pre)) k = smK (nm c) (nm ls) k + (pre.map fun i => c.getD i 0).sum
  | [], ls, _ => by simp [lng]
  | x :: t, ls, h => by
    have hx := h x (by simp)
    have e : lng ls (x :: t) = lng (ls.set x (ls.getD x 0 + 1)) t := rfl
    rw [e, smK_lng c k t _ (fun y hy => by rw [List.length_set]; exact h y (by simp [hy])), smK_set c ls x hx.1, if_pos hx.2, List.map_cons, List.sum_cons]
    omega
theorem sumT_sgl (c : List Nat) : ∀ (sy : List Nat) (t : Nat), sumT (sgl c sy) t = ((sy.take t).map fun i => c.getD i 0).sum
  | sy, 0 => by rw [sumT_zero]; simp
  | [], t + 1 => by simp [sgl, sumT]
  | x :: r, t + 1 => by
    have h := sumT_sgl c r t
    have e : sgl c (x :: r) = (c.getD x 0, false) :: sgl c r := rfl
    rw [e, sumT_cons, h, List.take_succ_cons, List.map_cons, List.sum_cons]
theorem smK_back (c sy : List Nat) (k : Nat) : ∀ (j t : Nat) (ls : List Nat), (∀ x ∈ sy, x < ls.length ∧ x < k) → smK (nm c) (nm (back (sgl c sy) sy j t ls)) k = smK (nm c) (nm ls) k + pay (sgl c sy) j t
  | 0, _, ls, _ => by rw [back, pay, Nat.add_zero]
  | j + 1, t, ls, h => by
    rw [back, pay, smK_back c sy k j _ _ (fun x hx => by rw [lng_len]; exact h x hx), smK_lng c k _ _ (fun x hx => h x (List.mem_of_mem_take hx)), ← sumT_sgl]
    omega
theorem smK_zero (c : List Nat) (n : Nat) : ∀ k, smK (nm c) (nm (List.replicate n 0)) k = 0
  | 0 => rfl
  | k + 1 => by
    rw [smK, smK_zero c n k, nm_getD, nm_getD]
    have : (List.replicate n 0).getD k 0 = 0 := by
      simp only [List.getD, List.getElem?_replicate]
      split <;> simp
    rw [this]
    simp
theorem sgl_false (c sy : List Nat) : ∀ p ∈ sgl c sy, p.2 = false := by
  intro p hp
  obtain ⟨i, _, rfl⟩ := List.mem_map.1 hp
  rfl
theorem cost_lens (c : List Nat) (limit : Nat) (h2 : 2 ≤ (syms c).length) (hl : 1 ≤ limit) (hn : (syms c).length ≤ 2 ^ limit) :
    smK (nm c) (nm (lensOf c (syms c) limit)) c.length = sumT (stp (sgl c (syms c)) (limit - 1)) (2 * (syms c).length - 2) := by
  have hs : (sgl c (syms c)).length = (syms c).length := by simp [sgl]
  have ht := trn_ok (sgl c (syms c)) (syms c) limit (List.replicate c.length 0) hs (cntP_sgl c _) hn 0 (by omega)
  rw [Nat.sub_zero] at ht
  have ht' : 2 * (syms c).length - 2 ≤ (stp (sgl c (syms c)) (limit - 1)).length := ht
  unfold lensOf
  rw [if_neg (by omega), smK_back c (syms c) c.length limit _ _ (fun x hx => by
    have := some1_lt c _ x ((syms_perm c).mem_iff.1 hx)
    rw [List.length_replicate]
    exact ⟨this, this⟩), smK_zero, Nat.zero_add]
  have h := pay_sum (sgl c (syms c)) (sgl_false c _) (limit - 1) _ ht'
  rw [show limit - 1 + 1 = limit from by omega] at h
  exact h
end Go.Proofs.Ytfcjnpbnejaolaa
