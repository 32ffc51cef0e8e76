/-
  Merging rows of packs that rise: the first of the merged row are the cheapest that can be taken out of both.
-/
import Derived.Test.YtfcjnpbnejaolaaMathQ
namespace Go.Proofs.Ytfcjnpbnejaolaa
set_option linter.unusedVariables false
set_option linter.unusedSimpArgs false

/-- what the first t weigh -/
def sumT (l : List Pk) : Nat → Nat
  | 0 => 0
  | t + 1 => match l with
    | [] => 0
    | x :: r => x.1 + sumT r t
theorem sumT_zero (l : List Pk) : sumT l 0 = 0 := by cases l <;> rfl
theorem sumT_cons (x : Pk) (r : List Pk) (t : Nat) : sumT (x :: r) (t + 1) = x.1 + sumT r t := rfl
/-- the row rises -/
def Ris (l : List Pk) : Prop := l.Pairwise fun x y => x.1 ≤ y.1
theorem sumT_last : ∀ (l : List Pk) (t M : Nat), t < l.length → (∀ p ∈ l, M ≤ p.1) → sumT l t + M ≤ sumT l (t + 1)
  | [], t, M, h, _ => by simp at h
  | x :: r, 0, M, _, h => by
    have := h x (by simp)
    rw [sumT_zero, sumT_cons, sumT_zero]
    omega
  | x :: r, t + 1, M, h, hM => by
    have := sumT_last r t M (by simpa using h) (fun p hp => hM p (by simp [hp]))
    rw [sumT_cons, sumT_cons]
    omega
theorem ris_head {x : Pk} {r : List Pk} (h : Ris (x :: r)) : ∀ p ∈ x :: r, x.1 ≤ p.1 := by
  intro p hp
  rcases List.mem_cons.1 hp with h1 | h1
  · rw [h1]; exact Nat.le_refl _
  · exact (List.pairwise_cons.1 h).1 p h1
theorem mrg_ris : ∀ a b : List Pk, Ris a → Ris b → Ris (mrg a b) := by
  intro a
  induction a with
  | nil => intro b _ h; exact h
  | cons x a ih =>
    intro b
    induction b with
    | nil => intro h _; rw [mrg_nil2]; exact h
    | cons y b ihb =>
      intro ha hb
      rw [mrg_cons]
      by_cases h : y.1 < x.1
      · rw [if_pos h]
        refine List.pairwise_cons.2 ⟨fun p hp => ?_, ihb ha (List.pairwise_cons.1 hb).2⟩
        rcases (mrg_mem _ _ p).1 hp with h1 | h1
        · have := ris_head ha p h1; omega
        · exact (List.pairwise_cons.1 hb).1 p h1
      · rw [if_neg h]
        refine List.pairwise_cons.2 ⟨fun p hp => ?_, ih _ (List.pairwise_cons.1 ha).2 hb⟩
        rcases (mrg_mem _ _ p).1 hp with h1 | h1
        · exact (List.pairwise_cons.1 ha).1 p h1
        · have := ris_head hb p h1; omega
/-- the first x + y of the merged row weigh no more than x of the one and y of the other -/
theorem mrg_least : ∀ (a b : List Pk) (x y : Nat), Ris a → Ris b → x ≤ a.length → y ≤ b.length → sumT (mrg a b) (x + y) ≤ sumT a x + sumT b y := by
  intro a
  induction a with
  | nil =>
    intro b x y _ _ hx _
    have : x = 0 := by simpa using hx
    subst this
    rw [mrg_nil, sumT_zero, Nat.zero_add]
    omega
  | cons u a ih =>
    intro b
    induction b with
    | nil =>
      intro x y _ _ _ hy
      have : y = 0 := by simpa using hy
      subst this
      rw [mrg_nil2, sumT_zero, Nat.add_zero, Nat.add_zero]
      exact Nat.le_refl _
    | cons v b ihb =>
      intro x y ha hb hx hy
      rw [mrg_cons]
      by_cases h : v.1 < u.1
      · rw [if_pos h]
        cases y with
        | succ y =>
          have := ihb x y ha (List.pairwise_cons.1 hb).2 hx (by simpa using hy)
          rw [← Nat.add_assoc, sumT_cons, sumT_cons]
          omega
        | zero =>
          cases x with
          | zero => rw [sumT_zero]; omega
          | succ x =>
            have h1 := ihb x 0 ha (List.pairwise_cons.1 hb).2 (by omega) (by omega)
            have h2 := sumT_last (u :: a) x u.1 (by omega) (ris_head ha)
            rw [sumT_zero] at h1
            rw [Nat.add_zero, sumT_cons, sumT_zero (v :: b)]
            simp only [Nat.add_zero] at h1
            omega
      · rw [if_neg h]
        cases x with
        | succ x =>
          have := ih (v :: b) x y (List.pairwise_cons.1 ha).2 hb (by simpa using hx) hy
          rw [show x + 1 + y = (x + y) + 1 from by omega, sumT_cons, sumT_cons]
          omega
        | zero =>
          cases y with
          | zero => rw [sumT_zero]; omega
          | succ y =>
            have h1 := ih (v :: b) 0 y (List.pairwise_cons.1 ha).2 hb (by omega) (by omega)
            have h2 := sumT_last (v :: b) y v.1 (by omega) (ris_head hb)
            rw [sumT_zero, Nat.zero_add, Nat.zero_add] at h1
            rw [Nat.zero_add, sumT_cons, sumT_zero (u :: a)]
            omega
/-- and they are just so many of the one and of the other -/
theorem mrg_parts : ∀ (a b : List Pk) (t : Nat), (∀ p ∈ a, p.2 = false) → (∀ p ∈ b, p.2 = true) → t ≤ a.length + b.length →
    cntP ((mrg a b).take t) ≤ b.length ∧ cntP ((mrg a b).take t) ≤ t ∧ t - cntP ((mrg a b).take t) ≤ a.length ∧ sumT (mrg a b) t = sumT a (t - cntP ((mrg a b).take t)) + sumT b (cntP ((mrg a b).take t)) := by
  intro a
  induction a with
  | nil =>
    intro b t _ hb ht
    rw [mrg_nil]
    have e : cntP (b.take t) = t := by
      unfold cntP
      rw [List.filter_eq_self.2 (fun p hp => hb p (List.mem_of_mem_take hp)), List.length_take]
      simp at ht
      omega
    rw [e]
    simp at ht
    refine ⟨ht, Nat.le_refl _, by omega, ?_⟩
    rw [Nat.sub_self, sumT_zero, Nat.zero_add]
  | cons u a ih =>
    intro b
    induction b with
    | nil =>
      intro t ha _ ht
      rw [mrg_nil2]
      have e : cntP ((u :: a).take t) = 0 := by
        unfold cntP
        rw [List.filter_eq_nil_iff.2 (fun p hp => by rw [ha p (List.mem_of_mem_take hp)]; simp)]
        rfl
      rw [e]
      refine ⟨Nat.zero_le _, Nat.zero_le _, by simpa using ht, ?_⟩
      rw [sumT_zero, Nat.sub_zero, Nat.add_zero]
    | cons v b ihb =>
      intro t ha hb ht
      rw [mrg_cons]
      cases t with
      | zero =>
        simp [cntP, sumT_zero]
      | succ t =>
        by_cases h : v.1 < u.1
        · rw [if_pos h, List.take_succ_cons]
          have hv : v.2 = true := hb v (by simp)
          obtain ⟨h1, h2, h3, h4⟩ := ihb t ha (fun p hp => hb p (by simp [hp])) (by simp at ht ⊢; omega)
          have e : cntP (v :: (mrg (u :: a) b).take t) = cntP ((mrg (u :: a) b).take t) + 1 := by
            unfold cntP
            rw [List.filter_cons, if_pos hv, List.length_cons]
          rw [e]
          refine ⟨by simp; omega, by omega, by omega, ?_⟩
          rw [sumT_cons, sumT_cons, h4, show t + 1 - (cntP ((mrg (u :: a) b).take t) + 1) = t - cntP ((mrg (u :: a) b).take t) from by omega]
          omega
        · rw [if_neg h, List.take_succ_cons]
          have hu : u.2 = false := ha u (by simp)
          obtain ⟨h1, h2, h3, h4⟩ := ih (v :: b) t (fun p hp => ha p (by simp [hp])) hb (by simp at ht ⊢; omega)
          have e : cntP (u :: (mrg a (v :: b)).take t) = cntP ((mrg a (v :: b)).take t) := by
            unfold cntP
            rw [List.filter_cons, if_neg (by rw [hu]; simp)]
          rw [e]
          refine ⟨h1, by omega, by simp; omega, ?_⟩
          rw [sumT_cons, h4, show t + 1 - cntP ((mrg a (v :: b)).take t) = (t - cntP ((mrg a (v :: b)).take t)) + 1 from by omega, sumT_cons]
          omega
end Go.Proofs.Ytfcjnpbnejaolaa
