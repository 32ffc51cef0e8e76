/-
  Runs and packs as plain mathematics: how numbers are cut, what a run's bytes are, how runs are read.
-/
import Derived.Test.YtlajjkpcgokinaaBVar
import Derived.Test.YtlajjkpcgokinaaBLit
import Derived.Test.YtlajjkpcgokinaaBPackAny
import Derived.Test.YtlajjkpcgokinaaBReadL
namespace Go.Proofs.Ytlajjkpcgokinaa
set_option linter.unusedVariables false

/-- how many numbers from the front on are the same -/
def sameN (l : List Int) : Nat := (l.takeWhile fun x => x == l.getD 0 0).length
/-- how many numbers a packed run has -/
def packF : Nat → Nat → List Int → Nat
  | 0, _, l => l.length
  | f + 1, k, l => if l.length ≤ k then l.length else if 8 ≤ sameN (l.drop k) then k else packF f (k + 8) l
def packN (l : List Int) : Nat := packF l.length 8 l
/-- the runs: packed or not, and the numbers -/
def cutF : Nat → List Int → List (Bool × List Int)
  | 0, _ => []
  | f + 1, l => if l.length = 0 then [] else if 8 ≤ sameN l then (false, l.take (sameN l)) :: cutF f (l.drop (sameN l)) else (true, l.take (packN l)) :: cutF f (l.drop (packN l))
def cutR (l : List Int) : List (Bool × List Int) := cutF l.length l

theorem takeWhile_le {α : Type} (p : α → Bool) : ∀ l : List α, (l.takeWhile p).length ≤ l.length
  | [] => by simp
  | a :: l => by
    have := takeWhile_le p l
    rw [List.takeWhile_cons]
    split <;> simp <;> omega
theorem sameN_le (l : List Int) : sameN l ≤ l.length := takeWhile_le _ l
theorem sameN_pos {l : List Int} (h : 1 ≤ l.length) : 1 ≤ sameN l := by
  cases l with
  | nil => simp at h
  | cons a l => simp [sameN]
theorem packF_le : ∀ (f k : Nat) (l : List Int), packF f k l ≤ l.length
  | 0, _, l => Nat.le_refl _
  | f + 1, k, l => by
    simp only [packF]
    split
    · exact Nat.le_refl _
    · split
      · omega
      · exact packF_le f _ l
theorem packF_ge : ∀ (f k : Nat) (l : List Int), 1 ≤ l.length → 1 ≤ k → 1 ≤ packF f k l
  | 0, _, l, h, _ => h
  | f + 1, k, l, h, hk => by
    simp only [packF]
    split
    · exact h
    · split
      · exact hk
      · exact packF_ge f _ l h (by omega)
/-- a packed run is full, but where the numbers end -/
theorem packF_full : ∀ (f k : Nat) (l : List Int), k % 8 = 0 → packF f k l = l.length ∨ packF f k l % 8 = 0
  | 0, _, l, _ => .inl rfl
  | f + 1, k, l, h => by
    simp only [packF]
    split
    · exact .inl rfl
    · split
      · exact .inr h
      · exact packF_full f _ l (by omega)
theorem packF_fuel : ∀ (f g k : Nat) (l : List Int), l.length ≤ k + 8 * f → l.length ≤ k + 8 * g → packF f k l = packF g k l
  | 0, 0, _, _, _, _ => rfl
  | 0, g + 1, k, l, h, _ => by
    simp only [packF]
    rw [if_pos (by omega)]
  | f + 1, 0, k, l, _, h => by
    simp only [packF]
    rw [if_pos (by omega)]
  | f + 1, g + 1, k, l, h1, h2 => by
    simp only [packF]
    split
    · rfl
    · split
      · rfl
      · exact packF_fuel f g (k + 8) l (by omega) (by omega)
/-- a step of the search -/
theorem packF_step {f k : Nat} {l : List Int} (h : l.length ≤ k + 8 * f) (h1 : k < l.length) (h2 : ¬ 8 ≤ sameN (l.drop k)) : l.length ≤ (k + 8) + 8 * (f - 1) ∧ packF f k l = packF (f - 1) (k + 8) l := by
  obtain ⟨g, rfl⟩ : ∃ g, f = g + 1 := ⟨f - 1, by omega⟩
  refine ⟨by omega, ?_⟩
  rw [packF, if_neg (by omega), if_neg h2]
  rfl
theorem packF_hit {f k : Nat} {l : List Int} (h : l.length ≤ k + 8 * f) (h1 : k < l.length) (h2 : 8 ≤ sameN (l.drop k)) : packF f k l = k := by
  obtain ⟨g, rfl⟩ : ∃ g, f = g + 1 := ⟨f - 1, by omega⟩
  rw [packF, if_neg (by omega), if_pos h2]
theorem packF_end {f k : Nat} {l : List Int} (h1 : l.length ≤ k) : packF f k l = l.length := by
  cases f with
  | zero => rfl
  | succ g => rw [packF, if_pos h1]

theorem cutF_fuel : ∀ (f g : Nat) (l : List Int), l.length ≤ f → l.length ≤ g → cutF f l = cutF g l
  | 0, 0, _, _, _ => rfl
  | 0, g + 1, l, h, _ => by
    simp only [cutF]
    rw [if_pos (by omega)]
  | f + 1, 0, l, _, h => by
    simp only [cutF]
    rw [if_pos (by omega)]
  | f + 1, g + 1, l, h1, h2 => by
    simp only [cutF]
    split
    · rfl
    · rename_i h0
      have hs := sameN_pos (l := l) (by omega)
      have hp := packF_ge l.length 8 l (by omega) (by omega)
      split
      · rw [cutF_fuel f g _ (by rw [List.length_drop]; omega) (by rw [List.length_drop]; omega)]
      · rw [cutF_fuel f g _ (by rw [List.length_drop]; unfold packN; omega) (by rw [List.length_drop]; unfold packN; omega)]
theorem cutR_nil {l : List Int} (h : l.length = 0) : cutR l = [] := by
  unfold cutR
  rw [h]
  rfl
theorem cutR_same {l : List Int} (h : 8 ≤ sameN l) : cutR l = (false, l.take (sameN l)) :: cutR (l.drop (sameN l)) := by
  have h1 := sameN_le l
  unfold cutR
  obtain ⟨f, hf⟩ : ∃ f, l.length = f + 1 := ⟨l.length - 1, by omega⟩
  rw [hf]
  simp only [cutF]
  rw [if_neg (by omega), if_pos h, cutF_fuel f _ _ (by rw [List.length_drop]; omega) (Nat.le_refl _)]
theorem cutR_pack {l : List Int} (h0 : 1 ≤ l.length) (h : ¬ 8 ≤ sameN l) : cutR l = (true, l.take (packN l)) :: cutR (l.drop (packN l)) := by
  have hp := packF_ge l.length 8 l (by omega) (by omega)
  unfold cutR
  obtain ⟨f, hf⟩ : ∃ f, l.length = f + 1 := ⟨l.length - 1, by omega⟩
  rw [hf]
  simp only [cutF]
  rw [if_neg (by omega), if_neg h, cutF_fuel f _ _ (by rw [List.length_drop]; unfold packN; omega) (Nat.le_refl _)]

/-- groups of 8; the last one filled up -/
def grp (n : Nat) : Nat := (n + 7) / 8
def filled (l : List Int) : List Int := l ++ List.replicate (8 * grp l.length - l.length) 0
theorem filled_len (l : List Int) : (filled l).length = 8 * grp l.length := by
  unfold filled grp
  simp
  omega
/-- a run's bytes -/
def runB (W : Nat) (r : Bool × List Int) : List Int :=
  if r.1 then vb ((2 * grp r.2.length + 1 : Nat) : Int) ++ ints (upk 8 (grp r.2.length * W) (pk W (nats (filled r.2))))
  else vb ((2 * r.2.length : Nat) : Int) ++ lb ((W + 7) / 8) (r.2.getD 0 0)
def runsB (W : Nat) : List (Bool × List Int) → List Int
  | [] => []
  | r :: rs => runB W r ++ runsB W rs
theorem runsB_snoc (W : Nat) (rs : List (Bool × List Int)) (r : Bool × List Int) : runsB W (rs ++ [r]) = runsB W rs ++ runB W r := by
  induction rs with
  | nil => simp [runsB]
  | cons a rs ih => simp [runsB, ih]
theorem runsB_append (W : Nat) (rs qs : List (Bool × List Int)) : runsB W (rs ++ qs) = runsB W rs ++ runsB W qs := by
  induction rs with
  | nil => simp [runsB]
  | cons a rs ih => simp [runsB, ih]
/-- numbers told -/
def told (W : Nat) (l : List Int) : List Int := runsB W (cutR l)

/-- numbers that fit -/
def FitI (W : Nat) (l : List Int) : Prop := ∀ x ∈ l, 0 ≤ x ∧ x.toNat < 2 ^ W
theorem FitI.take {W n : Nat} {l : List Int} (h : FitI W l) : FitI W (l.take n) := fun x hx => h x (List.mem_of_mem_take hx)
theorem FitI.drop {W n : Nat} {l : List Int} (h : FitI W l) : FitI W (l.drop n) := fun x hx => h x (List.mem_of_mem_drop hx)
theorem FitI.filled {W : Nat} {l : List Int} (h : FitI W l) : FitI W (filled l) := by
  intro x hx
  rcases List.mem_append.1 hx with h1 | h1
  · exact h x h1
  · rw [(List.mem_replicate.1 h1).2]
    exact ⟨Int.le_refl _, by simp; exact Nat.two_pow_pos _⟩
/-- what is refused -/
def badN (W : Int) (z : Int) : Bool := decide (W < Lib.bitLen (z % 18446744073709551616).toNat)
theorem bad_fit {W : Nat} (hW : W ≤ 32) {z : Int} (h1 : -9223372036854775808 ≤ z) (h2 : z ≤ 9223372036854775807) : badN W z = false ↔ (0 ≤ z ∧ z.toNat < 2 ^ W) := by
  unfold badN
  rw [decide_eq_false_iff_not]
  have hb := fits_iff (z % 18446744073709551616).toNat W (by omega) (by omega)
  have hp : 2 ^ W ≤ 2 ^ 32 := Nat.pow_le_pow_right (by omega) hW
  constructor
  · intro h
    have h3 := hb.1 (by omega)
    by_cases h0 : 0 ≤ z
    · exact ⟨h0, by rw [show z.toNat = (z % 18446744073709551616).toNat by omega]; exact h3⟩
    · exfalso
      have : (z % 18446744073709551616).toNat ≥ 9223372036854775808 := by omega
      omega
  · rintro ⟨h0, h3⟩
    have := hb.2 (by rw [show (z % 18446744073709551616).toNat = z.toNat by omega]; exact h3)
    omega
theorem fitI_of {W : Nat} (hW : W ≤ 32) {l : List Int} (hr : ∀ z ∈ l, -9223372036854775808 ≤ z ∧ z ≤ 9223372036854775807) (h : l.any (badN W) = false) : FitI W l := by
  intro z hz
  have := List.any_eq_false.1 h z hz
  exact (bad_fit hW (hr z hz).1 (hr z hz).2).1 (by simpa using this)
theorem any_of_fitI {W : Nat} (hW : W ≤ 32) {l : List Int} (h : FitI W l) : l.any (badN W) = false := by
  have hp : 2 ^ W ≤ 2 ^ 32 := Nat.pow_le_pow_right (by omega) hW
  rw [List.any_eq_false]
  intro z hz
  have hf := h z hz
  have := (bad_fit hW (z := z) (by omega) (by omega)).2 hf
  simp [this]
end Go.Proofs.Ytlajjkpcgokinaa
