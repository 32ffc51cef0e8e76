/-
  Numbers of a width, one behind the other, as one number: 'pk' puts them together, 'upk' takes them apart. Plain mathematics: no Go.
-/
import Derived.Test.YtdglobonbhkheaaRows
import Derived.Lib.BitFns
namespace Go.Proofs.Ytdglobonbhkheaa

def pk (w : Nat) : List Nat → Nat
  | [] => 0
  | x :: r => x + 2 ^ w * pk w r
def upk (w : Nat) : Nat → Nat → List Nat
  | 0, _ => []
  | k + 1, n => n % 2 ^ w :: upk w k (n / 2 ^ w)
def Fit (w : Nat) (l : List Nat) : Prop := ∀ x ∈ l, x < 2 ^ w

theorem pow_mul_succ (w k : Nat) : 2 ^ (w * (k + 1)) = 2 ^ w * 2 ^ (w * k) := by rw [Nat.mul_succ, Nat.pow_add, Nat.mul_comm]
theorem div_digit (w k n : Nat) : n / 2 ^ w / 2 ^ (w * k) = n / 2 ^ (w * (k + 1)) := by rw [Nat.div_div_eq_div_mul, pow_mul_succ]

theorem upk_len (w : Nat) : ∀ (k n : Nat), (upk w k n).length = k
  | 0, _ => rfl
  | k + 1, n => by simp [upk, upk_len w k]
theorem upk_fit (w : Nat) : ∀ (k n : Nat), Fit w (upk w k n)
  | 0, _ => by intro x hx; simp [upk] at hx
  | k + 1, n => by
    intro x hx
    simp only [upk, List.mem_cons] at hx
    rcases hx with rfl | hx
    · exact Nat.mod_lt _ (Nat.two_pow_pos _)
    · exact upk_fit w k _ x hx
theorem upk_get (w : Nat) : ∀ (k n i : Nat), i < k → (upk w k n)[i]? = some (n / 2 ^ (w * i) % 2 ^ w)
  | 0, _, _, h => by omega
  | k + 1, n, 0, _ => by simp [upk]
  | k + 1, n, i + 1, h => by
    simp only [upk, List.getElem?_cons_succ]
    rw [upk_get w k _ i (by omega), div_digit]
theorem upk_snoc (w : Nat) : ∀ (k n : Nat), upk w (k + 1) n = upk w k n ++ [n / 2 ^ (w * k) % 2 ^ w]
  | 0, n => by simp [upk]
  | k + 1, n => by
    have ih := upk_snoc w k (n / 2 ^ w)
    rw [show upk w (k + 1 + 1) n = n % 2 ^ w :: upk w (k + 1) (n / 2 ^ w) from rfl, ih, div_digit]
    rfl
theorem pk_snoc (w : Nat) : ∀ (l : List Nat) (x : Nat), pk w (l ++ [x]) = pk w l + x * 2 ^ (w * l.length)
  | [], x => by simp [pk]
  | y :: l, x => by
    simp only [List.cons_append, pk, pk_snoc w l x, List.length_cons, pow_mul_succ]
    rw [Nat.mul_add, Nat.add_assoc, Nat.mul_left_comm]
theorem pk_lt (w : Nat) : ∀ l : List Nat, Fit w l → pk w l < 2 ^ (w * l.length)
  | [], _ => by simp [pk]
  | x :: r, h => by
    have ih := pk_lt w r (fun y hy => h y (List.mem_cons_of_mem _ hy))
    have hx := h x List.mem_cons_self
    simp only [pk, List.length_cons, pow_mul_succ]
    have : 2 ^ w * (pk w r + 1) ≤ 2 ^ w * 2 ^ (w * r.length) := Nat.mul_le_mul_left _ ih
    rw [Nat.mul_add, Nat.mul_one] at this
    omega
theorem upk_pk (w : Nat) : ∀ l : List Nat, Fit w l → upk w l.length (pk w l) = l
  | [], _ => rfl
  | x :: r, h => by
    have hx := h x List.mem_cons_self
    have ih := upk_pk w r (fun y hy => h y (List.mem_cons_of_mem _ hy))
    simp only [List.length_cons, upk, pk]
    rw [Nat.add_mul_mod_self_left, Nat.mod_eq_of_lt hx, Nat.add_mul_div_left _ _ (Nat.two_pow_pos _), Nat.div_eq_of_lt hx, Nat.zero_add, ih]
theorem pk_upk (w : Nat) : ∀ k n : Nat, n < 2 ^ (w * k) → pk w (upk w k n) = n
  | 0, n, h => by simp at h; simp [upk, pk, h]
  | k + 1, n, h => by
    have h2 : n / 2 ^ w < 2 ^ (w * k) := by
      rw [pow_mul_succ] at h
      exact Nat.div_lt_of_lt_mul h
    simp only [upk, pk, pk_upk w k _ h2]
    exact Nat.mod_add_div n (2 ^ w)

/-- one digit more: the number is below that place -/
theorem upk_more (w k n : Nat) (h : n < 2 ^ (w * k)) : upk w (k + 1) n = upk w k n ++ [0] := by
  rw [upk_snoc, Nat.div_eq_of_lt h, Nat.zero_mod]

/-- something is put on top of the digit j -/
theorem upk_add (w s N j y : Nat) (hj : j < s) (h : N / 2 ^ (w * j) + y < 2 ^ w) : upk w s (N + y * 2 ^ (w * j)) = (upk w s N).set j (N / 2 ^ (w * j) + y) := by
  apply List.ext_getElem?
  intro i
  rcases Nat.lt_or_ge i s with hi | hi
  · rw [upk_get w s _ i hi]
    rcases Nat.lt_trichotomy i j with hij | rfl | hij
    · rw [List.getElem?_set_ne (by omega), upk_get w s _ i hi]
      have e : 2 ^ (w * j) = 2 ^ w * 2 ^ (w * (j - i - 1)) * 2 ^ (w * i) := by
        rw [← Nat.pow_add, ← Nat.pow_add]
        congr 1
        obtain ⟨d, rfl⟩ : ∃ d, j = i + 1 + d := ⟨j - i - 1, by omega⟩
        rw [show i + 1 + d - i - 1 = d from by omega, Nat.mul_add, Nat.mul_add, Nat.mul_one]
        omega
      rw [e, ← Nat.mul_assoc, Nat.add_mul_div_right _ _ (Nat.two_pow_pos _), Nat.mul_left_comm, Nat.add_mul_mod_self_left]
    · rw [List.getElem?_set_self (by rw [upk_len]; exact hi), Nat.add_mul_div_right _ _ (Nat.two_pow_pos _), Nat.mod_eq_of_lt h]
    · rw [List.getElem?_set_ne (by omega), upk_get w s _ i hi]
      have hle : 2 ^ (w * (j + 1)) ≤ 2 ^ (w * i) := Nat.pow_le_pow_right (by omega) (Nat.mul_le_mul_left _ hij)
      have h1 : N + y * 2 ^ (w * j) < 2 ^ (w * (j + 1)) := by
        rw [pow_mul_succ, ← Nat.div_lt_iff_lt_mul (Nat.two_pow_pos _), Nat.add_mul_div_right _ _ (Nat.two_pow_pos _)]
        exact h
      have h2 : N < 2 ^ (w * i) := by
        have := Nat.zero_le (y * 2 ^ (w * j))
        omega
      rw [Nat.div_eq_of_lt (by omega), Nat.div_eq_of_lt h2]
  · rw [List.getElem?_eq_none (by rw [upk_len]; exact hi), List.getElem?_eq_none (by rw [List.length_set, upk_len]; exact hi)]

/-- a number of so many bits is below that power, and the other way round -/
theorem lt_pow_bl : ∀ (f x : Nat), x < 2 ^ f → f ≤ 64 → x < 2 ^ Lib.bitLen x
  | 0, x, h, _ => by
    have : x = 0 := by simpa using h
    subst this
    decide
  | f + 1, x, h, hf => by
    by_cases h0 : x = 0
    · subst h0; decide
    · have h64 : x < 2 ^ 64 := Nat.lt_of_lt_of_le h (Nat.pow_le_pow_right (by omega) hf)
      have ih := lt_pow_bl f (x / 2) (by rw [Nat.pow_succ] at h; omega) (by omega)
      rw [Lib.bitLen_half x h0 h64, Nat.add_comm, Nat.pow_succ]
      omega
theorem fits_iff (x w : Nat) (hx : x < 18446744073709551616) (hw : w ≤ 64) : Lib.bitLen x ≤ w ↔ x < 2 ^ w := by
  constructor
  · intro h
    exact Nat.lt_of_lt_of_le (lt_pow_bl 64 x (by omega) (by omega)) (Nat.pow_le_pow_right (by omega) h)
  · intro h
    exact Lib.bitLen_le x w hw h

/-- the i-th bit -/
theorem bit_shift (n i j : Nat) : n / 2 ^ i / 2 ^ j = n / 2 ^ (i + j) := by rw [Nat.div_div_eq_div_mul, Nat.pow_add]
end Go.Proofs.Ytdglobonbhkheaa
