/-
  The reference's Codes.
-/
import Derived.Test.YtfcjnpbnejaolaaRefA
namespace Go.Proofs.Ytfcjnpbnejaolaa
set_option linter.unusedVariables false
set_option linter.unusedSimpArgs false
open Go.ChangeShapes Go.WideShapes Go.ChangeAt Go.RowKit

/-- which symbols have their codes already -/
def donB (m : List Nat) (L i q : Nat) : Bool := decide (m.getD q 0 ≠ 0 ∧ (m.getD q 0 < L ∨ (m.getD q 0 = L ∧ q < i)))
def rC (m : List Nat) (L i : Nat) : List Nat := (List.range m.length).map fun q => if donB m L i q then cod m q else 0
theorem rC_len (m : List Nat) (L i : Nat) : (rC m L i).length = m.length := by simp [rC]
theorem rC_start (m : List Nat) : rC m 1 0 = List.replicate m.length 0 := by
  unfold rC
  apply List.ext_getElem
  · simp
  · intro q h1 h2
    have : donB m 1 0 q = false := by unfold donB; exact decide_eq_false (fun h => by have := h.1; omega)
    simp [this]
theorem rC_end (m : List Nat) (h15 : ∀ j, m.getD j 0 ≤ 15) : rC m 16 0 = codL m := by
  unfold rC codL
  refine List.map_congr_left fun q _ => ?_
  have := h15 q
  by_cases h : m.getD q 0 = 0
  · rw [if_pos h]
    have : donB m 16 0 q = false := by unfold donB; exact decide_eq_false (fun h' => h'.1 h)
    rw [this]; rfl
  · rw [if_neg h]
    have : donB m 16 0 q = true := by unfold donB; exact decide_eq_true ⟨h, .inl (by omega)⟩
    rw [this]; rfl
theorem rC_next (m : List Nat) (L : Nat) : rC m (L + 1) 0 = rC m L m.length := by
  unfold rC
  refine List.map_congr_left fun q hq => ?_
  have hq' : q < m.length := by simpa using hq
  have : donB m (L + 1) 0 q = donB m L m.length q := by
    unfold donB
    congr 1
    apply propext
    constructor
    · rintro ⟨h1, h2 | h2⟩
      · exact ⟨h1, by omega⟩
      · omega
    · rintro ⟨h1, h2 | h2⟩
      · exact ⟨h1, by omega⟩
      · exact ⟨h1, by omega⟩
  rw [this]
theorem rC_skip (m : List Nat) (L i : Nat) (h : m.getD i 0 ≠ L) : rC m L (i + 1) = rC m L i := by
  unfold rC
  refine List.map_congr_left fun q hq => ?_
  have : donB m L (i + 1) q = donB m L i q := by
    unfold donB
    congr 1
    apply propext
    constructor
    · rintro ⟨h1, h2 | ⟨h2, h3⟩⟩
      · exact ⟨h1, .inl h2⟩
      · refine ⟨h1, .inr ⟨h2, ?_⟩⟩
        rcases Nat.lt_or_ge q i with h4 | h4
        · exact h4
        · have : q = i := by omega
          subst this
          exact absurd h2 h
    · rintro ⟨h1, h2 | ⟨h2, h3⟩⟩
      · exact ⟨h1, .inl h2⟩
      · exact ⟨h1, .inr ⟨h2, by omega⟩⟩
  rw [this]
theorem rC_set (m : List Nat) (L i : Nat) (hi : i < m.length) (h : m.getD i 0 = L) (hL : L ≠ 0) : (rC m L i).set i (cod m i) = rC m L (i + 1) := by
  unfold rC
  apply List.ext_getElem?
  intro q
  rw [List.getElem?_set]
  by_cases hq : q < m.length
  · by_cases e : i = q
    · subst e
      have : donB m L (i + 1) i = true := by unfold donB; simp only [decide_eq_true_eq]; exact ⟨by omega, .inr ⟨h, by omega⟩⟩
      simp [hq, this]
    · have : donB m L (i + 1) q = donB m L i q := by
        unfold donB
        congr 1
        apply propext
        constructor
        · rintro ⟨h1, h2 | ⟨h2, h3⟩⟩
          · exact ⟨h1, .inl h2⟩
          · exact ⟨h1, .inr ⟨h2, by omega⟩⟩
        · rintro ⟨h1, h2 | ⟨h2, h3⟩⟩
          · exact ⟨h1, .inl h2⟩
          · exact ⟨h1, .inr ⟨h2, by omega⟩⟩
      simp [e, hq, this]
  · by_cases e : i = q
    · omega
    · simp [e, hq]
theorem shl_any (x s v : Nat) (h : x * 2 ^ s = v) (hv : v ≤ 1000000000) : wrap64 ((x : Int) * 2 ^ s) = (v : Int) := by
  rw [show (2 : Int) ^ s = ((2 ^ s : Nat) : Int) from by simp, ← Int.natCast_mul, h]
  unfold wrap64
  omega
theorem refC_ok {l : List Int} (h : refC l = 0) : l.length ≤ 1000 ∧ ∃ m : List Nat, l = nm m ∧ ∀ x ∈ m, x ≤ 15 := by
  unfold refC at h
  have hr : refu 15 l = 0 := by
    by_cases h1 : refu 15 l = 0
    · exact h1
    · rw [if_pos h1] at h; exact absurd h h1
  obtain ⟨h1, m, h2, h3⟩ := refu_ok hr
  exact ⟨h1, m, h2, fun x hx => by have := h3 x hx; omega⟩
theorem refC_wgt {m : List Nat} (h : refC (nm m) = 0) : wgt m ≤ 32768 := by
  unfold refC at h
  have hr : refu 15 (nm m) = 0 := by
    by_cases h1 : refu 15 (nm m) = 0
    · exact h1
    · rw [if_pos h1] at h; exact absurd h h1
  rw [if_neg (fun h => h hr), nm_toNat] at h
  rcases Nat.lt_or_ge 32768 (wgt m) with h1 | h1
  · rw [if_pos h1] at h; omega
  · exact h1
theorem codL_getD (m : List Nat) (j : Nat) (hj : j < m.length) : (codL m).getD j 0 = if m.getD j 0 = 0 then 0 else cod m j := range_getD _ _ _ hj
/-- what the symbols with codes are -/
theorem upv_mem (m : List Nat) : ∀ (k : Nat) (p : Nat × Nat), p ∈ upv m k ↔ (p.1 < k ∧ m.getD p.1 0 ≠ 0 ∧ p.2 = cod m p.1)
  | 0, p => by simp [upv]
  | k + 1, p => by
    rw [upv]
    by_cases h : m.getD k 0 = 0
    · rw [if_pos h, upv_mem m k p]
      constructor
      · rintro ⟨h1, h2, h3⟩
        exact ⟨by omega, h2, h3⟩
      · rintro ⟨h1, h2, h3⟩
        refine ⟨?_, h2, h3⟩
        rcases Nat.lt_or_ge p.1 k with h4 | h4
        · exact h4
        · have : p.1 = k := by omega
          rw [this] at h2
          exact absurd h h2
    · rw [if_neg h, List.mem_append, upv_mem m k p, List.mem_singleton]
      constructor
      · rintro (⟨h1, h2, h3⟩ | rfl)
        · exact ⟨by omega, h2, h3⟩
        · exact ⟨by simp, h, rfl⟩
      · rintro ⟨h1, h2, h3⟩
        by_cases e : p.1 = k
        · right
          obtain ⟨p1, p2⟩ := p
          simp only at e h3
          subst e
          rw [h3]
        · left
          exact ⟨by omega, h2, h3⟩
theorem upv_rise (m : List Nat) : ∀ k, (upv m k).Pairwise fun a b => a.1 < b.1
  | 0 => by simp [upv]
  | k + 1 => by
    rw [upv]
    by_cases h : m.getD k 0 = 0
    · rw [if_pos h]; exact upv_rise m k
    · rw [if_neg h, List.pairwise_append]
      refine ⟨upv_rise m k, by simp, fun a ha b hb => ?_⟩
      rw [List.mem_singleton] at hb
      subst hb
      exact ((upv_mem m k a).1 ha).1
/-- the test of the law is the code's -/
theorem hit_iff (m : List Nat) (code length : Int) (j : Nat) (hj : j < m.length) : (((m.getD j 0 : Nat) : Int) = length ∧ 0 < length ∧ (((codL m).getD j 0 : Nat) : Int) = code) ↔ (m.getD j 0 ≠ 0 ∧ hit m code length (j, cod m j) = true) := by
  rw [codL_getD m j hj]
  unfold hit
  simp only [decide_eq_true_eq]
  constructor
  · rintro ⟨h1, h2, h3⟩
    have h0 : m.getD j 0 ≠ 0 := by omega
    rw [if_neg h0] at h3
    exact ⟨h0, h3, h1⟩
  · rintro ⟨h0, h3, h1⟩
    rw [if_neg h0]
    exact ⟨h1, by omega, h3⟩
theorem find_none_at {m : List Nat} {code length : Int} (h : findP m code length = none) {j : Nat} (hj : j < m.length) : ¬ (((m.getD j 0 : Nat) : Int) = length ∧ 0 < length ∧ (((codL m).getD j 0 : Nat) : Int) = code) := by
  intro h1
  obtain ⟨h2, h3⟩ := (hit_iff m code length j hj).1 h1
  unfold findP at h
  rw [List.find?_eq_none] at h
  exact h _ ((upv_mem m m.length (j, cod m j)).2 ⟨hj, h2, rfl⟩) h3
theorem find_some_at {m : List Nat} {code length : Int} {x : Nat × Nat} (h : findP m code length = some x) :
    (∀ j, j < x.1 → ¬ (((m.getD j 0 : Nat) : Int) = length ∧ 0 < length ∧ (((codL m).getD j 0 : Nat) : Int) = code)) ∧ x.1 < m.length ∧ (((m.getD x.1 0 : Nat) : Int) = length ∧ 0 < length ∧ (((codL m).getD x.1 0 : Nat) : Int) = code) := by
  unfold findP at h
  obtain ⟨hx, l1, l2, e, hno⟩ := List.find?_eq_some_iff_append.1 h
  have hm : x ∈ upv m m.length := by rw [e]; simp
  obtain ⟨h1, h2, h3⟩ := (upv_mem m m.length x).1 hm
  refine ⟨fun j hj h4 => ?_, h1, (hit_iff m code length x.1 h1).2 ⟨h2, by rw [← h3]; exact hx⟩⟩
  obtain ⟨h5, h6⟩ := (hit_iff m code length j (by omega)).1 h4
  have hjm := (upv_mem m m.length (j, cod m j)).2 ⟨by simp only; omega, h5, rfl⟩
  have hr := upv_rise m m.length
  rw [e] at hjm hr
  rw [List.pairwise_append] at hr
  rcases List.mem_append.1 hjm with h7 | h7
  · have := hno _ h7
    rw [h6] at this
    cases this
  · rcases List.mem_cons.1 h7 with h8 | h8
    · rw [← h8] at hj
      simp at hj
    · have := List.rel_of_pairwise_cons hr.2.1 h8
      simp only at this
      omega
end Go.Proofs.Ytfcjnpbnejaolaa
