/-
  append of bytes that may be none.
-/
import Derived.Test.YtignjhmbajiphaaHbMb
import Derived.Test.YtignjhmbajiphaaHbU
import Derived.Test.YtignjhmbajiphaaApp
namespace Go.Proofs.Ytignjhmbajiphaa
set_option linter.unusedVariables false
open Go.ChangeShapes Go.WideShapes Go.ChangeAt Go.RowKit

theorem run_app_any {W : World} {base : Nat} {v : Value} {n : Nat} {xs : List Value} (hown : W.ownsRow base 5 1 v n xs) {ad : Option Addr} {m c : Nat} {l : List Int} (hs : Src W ad m c (l.map (Value.int .u8))) (hb : base ≤ W.heap.size) (hz : n + m ≤ 70368744177664) :
    ∃ v' W', (Builtin.append_ #[23, 23] 23 #[v, .slice ad m c]).run Try.prog W = .ok v' W' ∧ W'.ownsRow base 5 1 v' (n + m) (xs ++ l.map (Value.int .u8)) ∧ Below base W W' := by
  obtain ⟨i0, hi, hz0, hz1, hz2⟩ := info_parts Try.info5
  rcases hs.2 with ⟨rfl, rfl, rfl⟩ | ⟨p, rfl, h2⟩
  · have hn : l.map (Value.int .u8) = [] := List.length_eq_zero_iff.1 hs.1
    rw [hn]
    exact ⟨v, W, run_append_owned_none (P := Try.prog) (w := W) base 23 23 5 i0 1 Try.underlying23 hi v n xs hown, by simpa using hown, Below.refl _ _⟩
  · obtain ⟨v', W', hr, h3, h4, _⟩ := run_append_own (P := Try.prog) W base 23 23 5 i0 (.int .u8 0) 1 1 Try.underlying23 hi hz0 hz1 hz2 rfl (by decide) v n xs hown p m c (l.map (Value.int .u8)) (by simpa using hs.1) h2 (ints_one _ _) (by unfold maxLen; omega) (by omega) hb
    exact ⟨v', W', hr, h3, (Below.refl base W).grown h4 hb (fun k hk => (hown.lt k hk).1)⟩
end Go.Proofs.Ytignjhmbajiphaa
