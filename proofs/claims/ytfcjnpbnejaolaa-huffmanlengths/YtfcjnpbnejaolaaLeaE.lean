/-
  The reference's table, while it is filled: what is so far, and what is done.
-/
import Derived.Test.YtfcjnpbnejaolaaLeaD
namespace Go.Proofs.Ytfcjnpbnejaolaa
set_option linter.unusedVariables false
set_option linter.unusedSimpArgs false

/-- no cost -/
def NoC : Nat := 4611686018427387904
/-- the table of a depth: each entry is the least cost, or none -/
def Tab (s : List Pk) (n d : Nat) (T : Nat → Nat → Nat) : Prop := ∀ a b, a ≤ n → b ≤ n → (T a b = NoC ∨ Rch s n d a b (T a b)) ∧ ∀ c, Rch s n d a b c → T a b ≤ c
/-- one ahead of another -/
def Bef (i' o' k' i o k : Nat) : Prop := i' < i ∨ (i' = i ∧ (o' < o ∨ (o' = o ∧ k' < k)))
/-- what is so far of the next depth's, d: all ahead of (i, o, k) are done -/
def Prt (s : List Pk) (n d : Nat) (i o k : Nat) (T : Nat → Nat → Nat) : Prop :=
  (∀ a b, a ≤ n → b ≤ n → T a b = NoC ∨ Rch s n (d + 1) a b (T a b)) ∧ (∀ c, Rch s n d n 0 c → T n 0 ≤ c) ∧
  ∀ i' o' k' c', Bef i' o' k' i o k → Rch s n d i' o' c' → i' < n → 1 ≤ o' → k' ≤ 2 * o' → i' + k' ≤ n → 2 * o' - k' ≤ n - (i' + k') → T (i' + k') (2 * o' - k') ≤ c' + (d + 1) * (sumT s (n - i') - sumT s (n - (i' + k')))
theorem tab_zero (s : List Pk) (n : Nat) (T : Nat → Nat → Nat) (h : ∀ a b, a ≤ n → b ≤ n → T a b = if a = 0 ∧ b = 1 then 0 else NoC) : Tab s n 0 T := by
  intro a b ha hb
  rw [h a b ha hb]
  by_cases e : a = 0 ∧ b = 1
  · rw [if_pos e]
    exact ⟨.inr ⟨e.1, e.2, rfl⟩, fun c _ => Nat.zero_le _⟩
  · rw [if_neg e]
    refine ⟨.inl rfl, fun c hc => ?_⟩
    obtain ⟨h1, h2, _⟩ := hc
    exact absurd ⟨h1, h2⟩ e
/-- where it begins: all none but what stays -/
theorem prt_start (s : List Pk) (n d : Nat) (T T' : Nat → Nat → Nat) (ht : Tab s n d T) (h : ∀ a b, a ≤ n → b ≤ n → T' a b = if a = n ∧ b = 0 then T n 0 else NoC) : Prt s n d 0 1 0 T' := by
  refine ⟨fun a b ha hb => ?_, fun c hc => ?_, fun i' o' k' c' hb _ _ h1 => ?_⟩
  · rw [h a b ha hb]
    by_cases e : a = n ∧ b = 0
    · rw [if_pos e]
      rcases (ht n 0 (Nat.le_refl _) (Nat.zero_le _)).1 with h1 | h1
      · exact .inl h1
      · obtain ⟨rfl, rfl⟩ := e
        exact .inr (.inl ⟨rfl, rfl, h1⟩)
    · rw [if_neg e]; exact .inl rfl
  · rw [h n 0 (Nat.le_refl _) (Nat.zero_le _), if_pos ⟨rfl, rfl⟩]
    exact (ht n 0 (Nat.le_refl _) (Nat.zero_le _)).2 c hc
  · exfalso
    rcases hb with h2 | ⟨_, h2 | ⟨_, h2⟩⟩ <;> omega
/-- an entry is bettered -/
theorem prt_put (s : List Pk) (n d i o k : Nat) (T T' : Nat → Nat → Nat) (ht : Tab s n d T) (hp : Prt s n d i o k T') (hi : i < n) (ho : 1 ≤ o) (hon : o ≤ n) (hk : k ≤ 2 * o) (hik : i + k ≤ n) (hl : 2 * o - k ≤ n - (i + k)) (hne : T i o ≠ NoC) (c : Nat)
    (hc : c = T i o + (d + 1) * (sumT s (n - i) - sumT s (n - (i + k)))) (T2 : Nat → Nat → Nat) (h2 : ∀ a b, a ≤ n → b ≤ n → T2 a b = if a = i + k ∧ b = 2 * o - k then min (T' (i + k) (2 * o - k)) c else T' a b) : Prt s n d i o (k + 1) T2 := by
  have hr : Rch s n d i o (T i o) := ((ht i o (Nat.le_of_lt hi) hon).1).resolve_left hne
  have hle : ∀ a b, a ≤ n → b ≤ n → T2 a b ≤ T' a b := fun a b ha hb => by
    rw [h2 a b ha hb]
    split
    · rename_i e
      obtain ⟨rfl, rfl⟩ := e
      exact Nat.min_le_left _ _
    · exact Nat.le_refl _
  refine ⟨fun a b ha hb => ?_, fun c' hc' => Nat.le_trans (hle n 0 (Nat.le_refl _) (Nat.zero_le _)) (hp.2.1 c' hc'), fun i' o' k' c' hb hr' a1 a2 a3 a4 a5 => ?_⟩
  · rw [h2 a b ha hb]
    split
    · rename_i e
      obtain ⟨rfl, rfl⟩ := e
      rcases Nat.le_total (T' (i + k) (2 * o - k)) c with h3 | h3
      · rw [Nat.min_eq_left h3]; exact hp.1 _ _ ha hb
      · rw [Nat.min_eq_right h3]
        exact .inr (.inr ⟨i, o, k, T i o, hr, hi, ho, hk, rfl, hik, rfl, hl, hc⟩)
    · exact hp.1 a b ha hb
  · by_cases hb2 : Bef i' o' k' i o k
    · exact Nat.le_trans (hle _ _ a4 (by omega)) (hp.2.2 i' o' k' c' hb2 hr' a1 a2 a3 a4 a5)
    · have e : i' = i ∧ o' = o ∧ k' = k := by
        unfold Bef at hb hb2
        omega
      obtain ⟨rfl, rfl, rfl⟩ := e
      rw [h2 _ _ a4 (by omega), if_pos ⟨rfl, rfl⟩]
      have h4 := (ht i' o' (Nat.le_of_lt hi) hon).2 c' hr'
      have h5 := Nat.min_le_right (T' (i' + k') (2 * o' - k')) c
      omega
/-- nothing is to be bettered -/
theorem prt_skip (s : List Pk) (n d i o k : Nat) (T' : Nat → Nat → Nat) (hp : Prt s n d i o k T') (hl : ¬ 2 * o - k ≤ n - (i + k)) : Prt s n d i o (k + 1) T' := by
  refine ⟨hp.1, hp.2.1, fun i' o' k' c' hb hr' a1 a2 a3 a4 a5 => ?_⟩
  by_cases hb2 : Bef i' o' k' i o k
  · exact hp.2.2 i' o' k' c' hb2 hr' a1 a2 a3 a4 a5
  · have e : i' = i ∧ o' = o ∧ k' = k := by
      unfold Bef at hb hb2
      omega
    obtain ⟨rfl, rfl, rfl⟩ := e
    exact absurd a5 hl
/-- a row's ways are all done -/
theorem prt_kend (s : List Pk) (n d i o k : Nat) (T' : Nat → Nat → Nat) (hp : Prt s n d i o k T') (hl : ¬ (k ≤ 2 * o ∧ i + k ≤ n)) : Prt s n d i (o + 1) 0 T' := by
  refine ⟨hp.1, hp.2.1, fun i' o' k' c' hb hr' a1 a2 a3 a4 a5 => ?_⟩
  by_cases hb2 : Bef i' o' k' i o k
  · exact hp.2.2 i' o' k' c' hb2 hr' a1 a2 a3 a4 a5
  · exfalso
    unfold Bef at hb hb2
    omega
/-- a row that has no cost has none -/
theorem prt_none (s : List Pk) (n d i o : Nat) (T T' : Nat → Nat → Nat) (hn : 1 ≤ n) (ht : Tab s n d T) (hp : Prt s n d i o 0 T') (hi : i < n) (hon : o ≤ n) (h0 : T i o = NoC) (hA : d * sumT s n < NoC) : Prt s n d i (o + 1) 0 T' := by
  refine ⟨hp.1, hp.2.1, fun i' o' k' c' hb hr' a1 a2 a3 a4 a5 => ?_⟩
  by_cases hb2 : Bef i' o' k' i o 0
  · exact hp.2.2 i' o' k' c' hb2 hr' a1 a2 a3 a4 a5
  · exfalso
    have e : i' = i ∧ o' = o := by
      unfold Bef at hb hb2
      omega
    obtain ⟨rfl, rfl⟩ := e
    have h1 := (ht i' o' (Nat.le_of_lt hi) hon).2 c' hr'
    have h2 := rch_le s n hn d i' o' c' hr'
    omega
theorem prt_oend (s : List Pk) (n d i o : Nat) (T' : Nat → Nat → Nat) (hn : 1 ≤ n) (hp : Prt s n d i o 0 T') (ho : n < o) : Prt s n d (i + 1) 1 0 T' := by
  refine ⟨hp.1, hp.2.1, fun i' o' k' c' hb hr' a1 a2 a3 a4 a5 => ?_⟩
  by_cases hb2 : Bef i' o' k' i o 0
  · exact hp.2.2 i' o' k' c' hb2 hr' a1 a2 a3 a4 a5
  · exfalso
    have := rch_bounds s n hn d i' o' c' hr'
    unfold Bef at hb hb2
    omega
theorem prt_end (s : List Pk) (n d i : Nat) (T' : Nat → Nat → Nat) (hp : Prt s n d i 1 0 T') (hi : n ≤ i) : Tab s n (d + 1) T' := by
  intro a b ha hb
  refine ⟨hp.1 a b ha hb, fun c hc => ?_⟩
  rcases hc with ⟨rfl, rfl, hc⟩ | ⟨i', o', k', c', hr, a1, a2, a3, rfl, a5, rfl, a7, rfl⟩
  · exact hp.2.1 c hc
  · exact hp.2.2 i' o' k' c' (.inl (by omega)) hr a1 a2 a3 a5 a7
theorem tab_least (s : List Pk) (h0 : ∀ p ∈ s, p.2 = false) (h1 : ∀ p ∈ s, 1 ≤ p.1) (hr : Ris s) (L : Nat) (hL : 1 ≤ L) (h2 : 2 ≤ s.length) (hn : s.length ≤ 2 ^ L) (hA : L * sumT s s.length < NoC) (T : Nat → Nat → Nat) (ht : Tab s s.length L T) :
    T s.length 0 = sumT (stp s (L - 1)) (2 * s.length - 2) := by
  have hc := rch_complete s h0 h1 hr L hL h2 hn
  have h3 := ht s.length 0 (Nat.le_refl _) (Nat.zero_le _)
  have h4 := h3.2 _ hc
  have h5 := rch_le s s.length (by omega) L _ _ _ hc
  rcases h3.1 with h6 | h6
  · omega
  · have := rch_sound s hr h2 L hL _ h6
    omega
/-- entries are no more than none, or far less -/
theorem tab_small (s : List Pk) (n d : Nat) (hn : 1 ≤ n) (T : Nat → Nat → Nat) (ht : Tab s n d T) (a b : Nat) (ha : a ≤ n) (hb : b ≤ n) (hne : T a b ≠ NoC) : T a b ≤ d * sumT s n :=
  rch_le s n hn d a b _ (((ht a b ha hb).1).resolve_left hne)
end Go.Proofs.Ytfcjnpbnejaolaa
