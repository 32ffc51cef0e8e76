/-
  Digits to the base 16 and bytes between quotes: the plain mathematics.
-/
import Derived.Test.YtndeglamnnipoaaDoorBase
namespace Go.Proofs.YtndeglamnnipoaaDoor
set_option linter.unusedVariables false
set_option linter.unusedSimpArgs false
open Go.ChangeShapes Go.WideShapes Go.ChangeAt Go.RowKit

/-- a digit to the base 16 -/
def dg (d : Nat) : Nat := if d < 10 then 48 + d else 87 + d
/-- so many digits, the highest first -/
def hx : Nat → Nat → List Nat
  | 0, _ => []
  | c + 1, n => hx c (n / 16) ++ [dg (n % 16)]
theorem hx_len : ∀ c n : Nat, (hx c n).length = c
  | 0, _ => rfl
  | c + 1, n => by simp [hx, hx_len c]
theorem hx_cons : ∀ c n : Nat, hx (c + 1) n = dg (n / 16 ^ c % 16) :: hx c n
  | 0, n => by simp [hx]
  | c + 1, n => by
    rw [hx, hx_cons c (n / 16), List.cons_append, hx, Nat.div_div_eq_div_mul, Nat.pow_succ, Nat.mul_comm 16]
theorem dg_lt (d : Nat) (h : d < 16) : dg d < 128 := by unfold dg; split <;> omega
theorem hx_lt : ∀ (c n : Nat), ∀ x ∈ hx c n, x < 128
  | 0, _, x, h => by cases h
  | c + 1, n, x, h => by
    rw [hx, List.mem_append] at h
    rcases h with h | h
    · exact hx_lt c _ x h
    · rw [List.mem_singleton] at h; rw [h]; exact dg_lt _ (Nat.mod_lt _ (by omega))
/-- does a byte show as itself? -/
def shB (c : Nat) : Bool := decide (32 ≤ c) && (decide (c ≤ 126) && (decide (c ≠ 34) && decide (c ≠ 92)))
/-- what is laid for a byte -/
def qb (c : Nat) : List Nat := if shB c = true then [c] else [92, 120] ++ hx 2 c
def qs : List Nat → List Nat
  | [] => []
  | c :: l => qb c ++ qs l
theorem qs_append : ∀ l m : List Nat, qs (l ++ m) = qs l ++ qs m
  | [], m => rfl
  | c :: l, m => by simp [qs, qs_append l m]
theorem qb_len (c : Nat) : (qb c).length ≤ 4 := by unfold qb; split <;> simp [hx_len]
theorem qs_len : ∀ l : List Nat, (qs l).length ≤ 4 * l.length
  | [] => Nat.le_refl _
  | c :: l => by
    have h1 := qb_len c
    have h2 := qs_len l
    simp only [qs, List.length_append, List.length_cons]
    omega
/-- a text's bytes -/
def nb (s : ByteArray) : List Nat := s.data.toList.map UInt8.toNat
theorem nb_len (s : ByteArray) : (nb s).length = s.size := by simp [nb]
theorem nb_get (s : ByteArray) (i : Nat) (h : i < s.size) : (nb s)[i]? = some (s[i]'h).toNat := by
  unfold nb
  rw [List.getElem?_map, List.getElem?_eq_getElem (by simpa using h)]
  rfl
theorem nb_take (s : ByteArray) (i : Nat) (h : i < s.size) : (nb s).take (i + 1) = (nb s).take i ++ [(s[i]'h).toNat] := by
  rw [List.take_add_one, nb_get s i h]; rfl
theorem nb_u8 (s : ByteArray) : ∀ x ∈ nb s, x < 256 := by
  intro x h
  obtain ⟨y, _, rfl⟩ := List.mem_map.1 h
  exact y.toNat_lt
/-- bytes as a text -/
def tx (l : List Nat) : ByteArray := strOfNums (l.map fun n : Nat => (n : Int))
theorem tx_data (l : List Nat) : (tx l).data.toList = l.map fun n => n.toUInt8 := by
  unfold tx strOfNums
  simp [Int.toNat_natCast, Function.comp_def]
end Go.Proofs.YtndeglamnnipoaaDoor
