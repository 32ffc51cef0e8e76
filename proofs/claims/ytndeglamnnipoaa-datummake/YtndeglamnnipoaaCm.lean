/-
  The order of data, as plain functions.
-/
import Derived.Test.YtndeglamnnipoaaDm
import Derived.Test.YtndeglamnnipoaaFlM
namespace Go.Proofs.Ytndeglamnnipoaa
set_option linter.unusedVariables false
set_option linter.unusedSimpArgs false

/-- byte by byte -/
def lexC : List UInt8 → List UInt8 → Int
  | [], [] => 0
  | [], _ :: _ => -1
  | _ :: _, [] => 1
  | a :: x, b :: y => if a < b then -1 else if b < a then 1 else lexC x y
theorem lexC_less : ∀ x y : List UInt8, Op.bytesLess x y = decide (lexC x y = -1)
  | [], [] => by simp [Op.bytesLess, lexC]
  | [], _ :: _ => by simp [Op.bytesLess, lexC]
  | _ :: _, [] => by simp [Op.bytesLess, lexC]
  | a :: x, b :: y => by
    rw [Op.bytesLess, lexC, lexC_less x y]
    by_cases h : a < b
    · simp [h]
    · by_cases h2 : b < a
      · have h3 : (a == b) = false := by simp only [beq_eq_false_iff_ne]; intro e; subst e; exact h h2
        simp [h, h2, h3]
      · have h3 : a = b := UInt8.le_antisymm (UInt8.not_lt.1 h2) (UInt8.not_lt.1 h)
        simp [h, h2, h3]
theorem lexC_eq : ∀ x y : List UInt8, (x == y) = decide (lexC x y = 0)
  | [], [] => by simp [lexC]
  | [], _ :: _ => by simp [lexC]
  | _ :: _, [] => by simp [lexC]
  | a :: x, b :: y => by
    rw [List.cons_beq_cons, lexC, lexC_eq x y]
    by_cases h : a < b
    · have h3 : (a == b) = false := by simp only [beq_eq_false_iff_ne]; intro e; subst e; exact absurd h (UInt8.lt_irrefl _)
      simp [h, h3]
    · by_cases h2 : b < a
      · have h3 : (a == b) = false := by simp only [beq_eq_false_iff_ne]; intro e; subst e; exact h h2
        simp [h, h2, h3]
      · have h3 : a = b := UInt8.le_antisymm (UInt8.not_lt.1 h2) (UInt8.not_lt.1 h)
        simp [h, h2, h3]
theorem lexC_three : ∀ x y : List UInt8, lexC x y = -1 ∨ lexC x y = 0 ∨ lexC x y = 1
  | [], [] => .inr (.inl rfl)
  | [], _ :: _ => .inl rfl
  | _ :: _, [] => .inr (.inr rfl)
  | a :: x, b :: y => by
    rw [lexC]
    split
    · exact .inl rfl
    split
    · exact .inr (.inr rfl)
    exact lexC_three x y
theorem lexC_neg : ∀ x y : List UInt8, lexC y x = - lexC x y
  | [], [] => rfl
  | [], _ :: _ => rfl
  | _ :: _, [] => rfl
  | a :: x, b :: y => by
    rw [lexC, lexC]
    by_cases h : a < b
    · have h2 : ¬ b < a := fun h2 => absurd (UInt8.lt_trans h h2) (UInt8.lt_irrefl _)
      simp [h, h2]
    · by_cases h2 : b < a
      · simp [h, h2]
      · simp only [h, h2, if_false]
        exact lexC_neg x y
theorem lexC_self (x : List UInt8) : lexC x x = 0 := by
  have := lexC_neg x x
  have := lexC_three x x
  omega
theorem lexC_trans : ∀ x y z : List UInt8, lexC x y ≤ 0 → lexC y z ≤ 0 → lexC x z ≤ 0 ∧ (lexC x y < 0 → lexC x z < 0)
  | [], [], z => fun h1 h2 => ⟨h2, fun h => by simp [lexC] at h⟩
  | [], _ :: _, [] => fun h1 h2 => by simp [lexC] at h2
  | [], _ :: _, _ :: _ => fun h1 h2 => by simp [lexC]
  | _ :: _, [], z => fun h1 h2 => by simp [lexC] at h1
  | _ :: _, _ :: _, [] => fun h1 h2 => by simp [lexC] at h2
  | a :: x, b :: y, c :: z => by
    have ih := lexC_trans x y z
    have q1 := lexC_three x y
    rw [lexC, lexC, lexC]
    intro h1 h2
    by_cases a1 : a < b
    · simp only [a1, if_true] at h1 ⊢
      by_cases b1 : b < c
      · have := UInt8.lt_trans a1 b1
        simp [this]
      · by_cases b2 : c < b
        · simp [b1, b2] at h2
        · have : b = c := UInt8.le_antisymm (UInt8.not_lt.1 b2) (UInt8.not_lt.1 b1)
          subst this
          simp [a1]
    · by_cases a2 : b < a
      · simp [a1, a2] at h1
      · have : a = b := UInt8.le_antisymm (UInt8.not_lt.1 a2) (UInt8.not_lt.1 a1)
        subst this
        simp only [a1, if_false] at h1 ⊢
        by_cases b1 : a < c
        · simp [b1]
        · by_cases b2 : c < a
          · simp [b1, b2] at h2
          · simp only [b1, b2, if_false] at h2 ⊢
            exact ih h1 h2

/-- which of two numbers is ahead -/
def cI (x y : Int) : Int := if x < y then -1 else if y < x then 1 else 0
theorem cI_neg (x y : Int) : cI y x = - cI x y := by unfold cI; split <;> split <;> omega
theorem cI_self (x : Int) : cI x x = 0 := by unfold cI; split <;> omega
theorem cI_trans (x y z : Int) (h1 : cI x y ≤ 0) (h2 : cI y z ≤ 0) : cI x z ≤ 0 ∧ (cI x y < 0 → cI x z < 0) := by
  unfold cI at *
  (repeat' split at h1) <;> (repeat' split at h2) <;> (repeat' split) <;> omega
/-- of two real numbers, by what they say of one another -/
def oN : Option Ordering → Int
  | some .lt => -1
  | some .gt => 1
  | _ => 0

def w32 (n : Int) : Nat := (n % 4294967296).toNat
def w64 (n : Int) : Nat := (IntKind.u64.wrap n).toNat
/-- a real number's datum as a word of 64 bits (of 32 bits and no number: any of no number) -/
def isR (k n : Int) (r : Nat) : Prop := if k = 4 then (if nan32 (w32 n) = true then nan64 r = true else r = cv (w32 n)) else r = w64 n
def nanD (k n : Int) : Bool := if k = 4 then nan32 (w32 n) else nan64 (w64 n)
def VD (k n : Int) : Int := if k = 4 then V (cv (w32 n)) else V (w64 n)
theorem isR_nan {k n : Int} {r : Nat} (h : isR k n r) : nan64 r = nanD k n := by
  unfold isR at h; unfold nanD
  split at h
  · rename_i hk
    rw [if_pos hk]
    split at h
    · rename_i hn; rw [h, hn]
    · rename_i hn
      have hn' : nan32 (w32 n) = false := by simpa using hn
      rw [h, hn', cv_nan hn']
  · rename_i hk
    rw [if_neg hk, h]
theorem isR_V {k n : Int} {r : Nat} (h : isR k n r) (hn : nanD k n = false) : V r = VD k n := by
  unfold isR at h; unfold nanD at hn; unfold VD
  split at h
  · rename_i hk
    rw [if_pos hk] at hn ⊢
    rw [if_neg (by simp [hn])] at h
    rw [h]
  · rename_i hk
    rw [if_neg hk, h]
def ordF (k n n' : Int) : Option Ordering := if (nanD k n || nanD k n') = true then none else some (compare (VD k n) (VD k n'))
theorem isR_ord {k n n' : Int} {r r' : Nat} (h : isR k n r) (h' : isR k n' r') : Ieee.double.order r r' = ordF k n n' := by
  have e := isR_nan h
  have e' := isR_nan h'
  unfold ordF
  cases hn : nanD k n
  · cases hn' : nanD k n'
    · rw [order_V (e.trans hn) (e'.trans hn'), isR_V h hn, isR_V h' hn']; rfl
    · rw [order_nan (.inr (e'.trans hn'))]; rfl
  · rw [order_nan (.inl (e.trans hn))]; rfl
theorem oN_cmp (x y : Int) : oN (some (compare x y)) = cI x y := by
  rcases cmp_cases x y with ⟨h, e⟩ | ⟨h, e⟩ | ⟨h, e⟩ <;> rw [e] <;> unfold oN cI
  · rw [if_pos h]
  · rw [if_neg (by omega), if_neg (by omega)]
  · rw [if_neg (by omega), if_pos h]

/-- what Compare answers -/
def cmpA (k n : Int) (s : List UInt8) (k' n' : Int) (s' : List UInt8) : Bool := fineB k n s.length && fineB k' n' s'.length && (k == k')
def cmpN (k n : Int) (s : List UInt8) (k' n' : Int) (s' : List UInt8) : Int :=
  if cmpA k n s k' n' s' = true then (if k = 6 ∨ k = 7 then lexC s s' else if k = 4 ∨ k = 5 then oN (ordF k n n') else cI n n') else 0
def cmpB (k n : Int) (s : List UInt8) (k' n' : Int) (s' : List UInt8) : Bool :=
  cmpA k n s k' n' s' && (!(k == 4 || k == 5) || (ordF k n n').isSome)
end Go.Proofs.Ytndeglamnnipoaa
