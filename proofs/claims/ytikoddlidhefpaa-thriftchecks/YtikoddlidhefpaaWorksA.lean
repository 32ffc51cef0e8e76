/-
  works: a structure, there and back.
-/
import Derived.Test.YtikoddlidhefpaaFld
import Derived.Test.YtikoddlidhefpaaBackB
import Derived.Test.YtikoddlidhefpaaRSame
namespace Go.Proofs.Ytikoddlidhefpaa
set_option linter.unusedVariables false
set_option linter.unusedSimpArgs false
open Go.ChangeShapes Go.WideShapes Go.ChangeAt Go.RowKit Go.Deep

def wkT : ByteArray := { data := #[97, 98] }
def wkP : Pay := ⟨12, 0, 0, 0, noText, [1, 2, 20]⟩
def wkC : Fo := .node 0 0 (scal 5 1) .nil (.node 0 0 (scal 1 1) .nil (.node 0 0 ⟨8, 0, 0, 0, wkT, []⟩ .nil .nil))
theorem wk_bytes : valB wkP wkC = [21, 2, 17, 8, 40, 2, 97, 98, 0] := by rfl
theorem wk_may : (decide (wkP.kind = 12) && mayV wkP wkC 32) = true := by decide +kernel
theorem wk_read : rRead [21, 2, 17, 8, 40, 2, 97, 98, 0, 7] = .ok ((wkP, wkC), [7]) := by
  have h1 := wk_may
  rw [Bool.and_eq_true] at h1
  have z0 : i64ok 0 := ⟨by omega, by omega⟩
  have z1 : i64ok 1 := ⟨by omega, by omega⟩
  have := back_all 32 wkP wkC [7] h1.2 z0 ⟨⟨z1, trivial⟩, ⟨z1, trivial⟩, ⟨z0, trivial⟩, trivial⟩
  rw [wk_bytes] at this
  exact this
theorem wk_not : rRead [1, 2] = .error false := by rfl
theorem wk_short : rRead [17, 1] = .error true := by rfl
theorem zeros_src (w : World) : Src w none 0 0 (c64 []) := ⟨rfl, .inl ⟨rfl, rfl, rfl⟩⟩
theorem wk_in {W : World} {A B : Nat} (ha : W.heap[A]? = some (.cells #[.int .i64 1, .int .i64 2, .int .i64 20] 3 (0, 0)))
    (hb : W.heap[B]? = some (.cells #[.int .i64 5, .int .i64 0, .int .i64 0, .int .i64 1, .string { data := #[] }, .slice none 0 0, .slice none 0 0, .int .i64 1, .int .i64 0, .int .i64 0, .int .i64 1, .string { data := #[] }, .slice none 0 0, .slice none 0 0, .int .i64 8, .int .i64 0, .int .i64 0, .int .i64 0, .string { data := #[97, 98] }, .slice none 0 0, .slice none 0 0] 26 (0, 0))) :
    VIn W wkP wkC (some ⟨A, 0, none⟩) 3 (some ⟨B, 0, none⟩) 3 := by
  have z0 : i64ok 0 := ⟨by omega, by omega⟩
  have z1 : i64ok 1 := ⟨by omega, by omega⟩
  have z2 : i64ok 2 := ⟨by omega, by omega⟩
  have z5 : i64ok 5 := ⟨by omega, by omega⟩
  have z8 : i64ok 8 := ⟨by omega, by omega⟩
  have z12 : i64ok 12 := ⟨by omega, by omega⟩
  have z20 : i64ok 20 := ⟨by omega, by omega⟩
  have hlt := lt_of_heap hb
  refine ⟨⟨z12, z0, z0, z0, Nat.zero_le _, by decide, ?_⟩, by decide, ⟨rfl, .inr ⟨_, rfl, fun j u hj => ?_⟩⟩, ?_⟩
  · intro n hn
    simp [wkP] at hn
    rcases hn with rfl | rfl | rfl
    · exact z1
    · exact z2
    · exact z20
  · rw [add0]
    exact cell_of_block ha (by simpa [c64, wkP] using hj)
  · refine ⟨B, 0, rfl, hlt, scal_ok z5 z1, Nat.zero_le _, ⟨none, 0, none, 0, fun j u hj => ?_, zeros_src _, trivial⟩, B, 7, rfl, hlt, scal_ok z1 z1, Nat.zero_le _, ⟨none, 0, none, 0, fun j u hj => ?_, zeros_src _, trivial⟩, B, 14, rfl, hlt, ⟨z8, z0, z0, z0, by decide, Nat.zero_le _, fun _ h => by cases h⟩, Nat.zero_le _, ⟨none, 0, none, 0, fun j u hj => ?_, zeros_src _, trivial⟩, trivial⟩
    · match j, hj with
      | 0, hj => cases hj; exact cell_of_block hb rfl
      | 1, hj => cases hj; exact cell_of_block hb rfl
      | 2, hj => cases hj; exact cell_of_block hb rfl
      | 3, hj => cases hj; exact cell_of_block hb rfl
      | 4, hj => cases hj; exact cell_of_block hb rfl
      | 5, hj => cases hj; exact cell_of_block hb rfl
      | 6, hj => cases hj; exact cell_of_block hb rfl
      | j + 7, hj => simp [cells7] at hj
    · match j, hj with
      | 0, hj => cases hj; exact cell_of_block hb rfl
      | 1, hj => cases hj; exact cell_of_block hb rfl
      | 2, hj => cases hj; exact cell_of_block hb rfl
      | 3, hj => cases hj; exact cell_of_block hb rfl
      | 4, hj => cases hj; exact cell_of_block hb rfl
      | 5, hj => cases hj; exact cell_of_block hb rfl
      | 6, hj => cases hj; exact cell_of_block hb rfl
      | j + 7, hj => simp [cells7] at hj
    · match j, hj with
      | 0, hj => cases hj; exact cell_of_block hb rfl
      | 1, hj => cases hj; exact cell_of_block hb rfl
      | 2, hj => cases hj; exact cell_of_block hb rfl
      | 3, hj => cases hj; exact cell_of_block hb rfl
      | 4, hj => cases hj; exact cell_of_block hb rfl
      | 5, hj => cases hj; exact cell_of_block hb rfl
      | 6, hj => cases hj; exact cell_of_block hb rfl
      | j + 7, hj => simp [cells7] at hj
end Go.Proofs.Ytikoddlidhefpaa
