/-
  What bits.Size and the reference's Size answer, at every width and count; the world stays.
-/
import Derived.Test.YtdglobonbhkheaaRows
import Derived.WalkKit
import Derived.ProofKit
import Derived.OpenShut
namespace Go.Proofs.Ytdglobonbhkheaa
open Go.ChangeShapes Go.WideShapes Go.ChangeAt Go.RowKit

/-- the refusal's number: 2 for what may not be, 3 above the bound, 0 for none -/
def sze (wd ct : Int) : Int :=
  if wd < 0 ∨ 64 < wd ∨ ct < 0 then 2 else if 1048576 < ct then 3 else if 1048576 < (ct * wd + 7) / 8 then 3 else 0
/-- how many bytes -/
def szv (wd ct : Int) : Int := if sze wd ct = 0 then (ct * wd + 7) / 8 else 0

theorem sze_arg {wd ct : Int} (h : wd < 0 ∨ 64 < wd ∨ ct < 0) : sze wd ct = 2 ∧ szv wd ct = 0 := by
  have e : sze wd ct = 2 := by unfold sze; rw [if_pos h]
  exact ⟨e, by unfold szv; rw [e]; rfl⟩
theorem sze_many {wd ct : Int} (h : ¬ (wd < 0 ∨ 64 < wd ∨ ct < 0)) (h2 : 1048576 < ct) : sze wd ct = 3 ∧ szv wd ct = 0 := by
  have e : sze wd ct = 3 := by unfold sze; rw [if_neg h, if_pos h2]
  exact ⟨e, by unfold szv; rw [e]; rfl⟩
theorem sze_long {wd ct : Int} (h : ¬ (wd < 0 ∨ 64 < wd ∨ ct < 0)) (h2 : ¬ 1048576 < ct) (h3 : 1048576 < (ct * wd + 7) / 8) : sze wd ct = 3 ∧ szv wd ct = 0 := by
  have e : sze wd ct = 3 := by unfold sze; rw [if_neg h, if_neg h2, if_pos h3]
  exact ⟨e, by unfold szv; rw [e]; rfl⟩
theorem sze_ok {wd ct : Int} (h : ¬ (wd < 0 ∨ 64 < wd ∨ ct < 0)) (h2 : ¬ 1048576 < ct) (h3 : ¬ 1048576 < (ct * wd + 7) / 8) : sze wd ct = 0 ∧ szv wd ct = (ct * wd + 7) / 8 := by
  have e : sze wd ct = 0 := by unfold sze; rw [if_neg h, if_neg h2, if_neg h3]
  exact ⟨e, by unfold szv; rw [e]; rfl⟩

theorem prod_le (a b : Int) (ha : 0 ≤ a) (hb : 0 ≤ b) (ha1 : a ≤ 1048576) (hb1 : b ≤ 64) : 0 ≤ a * b ∧ a * b ≤ 67108864 := by
  refine ⟨Int.mul_nonneg ha hb, ?_⟩
  have := Int.mul_le_mul ha1 hb1 hb (by omega : (0 : Int) ≤ 1048576)
  simpa using this

theorem two_int {a b c d : Int} (h : a = c) (g : b = d) : Ending.returned (.tuple #[.int .i64 a, .int .i64 b]) = .returned (.tuple #[.int .i64 c, .int .i64 d]) := by rw [h, g]

set_option maxRecDepth 100000 in
set_option maxHeartbeats 1000000 in
theorem size_any (wd ct : Int) (w : World) (h1 : -9223372036854775808 ≤ wd) (h2 : wd ≤ 9223372036854775807) (h3 : -9223372036854775808 ≤ ct) (h4 : ct ≤ 9223372036854775807) :
    Calls Try.prog 54 #[.int .i64 wd, .int .i64 ct] w fun e w' => e = .returned (.tuple #[.int .i64 (szv wd ct), .int .i64 (sze wd ct)]) ∧ w' = w := by
  by_cases c1 : wd < 0
  · go_enter Try.func54, Try.ntmps54
    go_wp2
    go_ret2
    exact ⟨two_int (sze_arg (.inl c1)).2.symm (sze_arg (.inl c1)).1.symm, rfl⟩
  by_cases c2 : 64 < wd
  · go_enter Try.func54, Try.ntmps54
    go_wp2
    go_ret2
    exact ⟨two_int (sze_arg (.inr (.inl c2))).2.symm (sze_arg (.inr (.inl c2))).1.symm, rfl⟩
  by_cases c3 : ct < 0
  · go_enter Try.func54, Try.ntmps54
    go_wp2
    go_ret2
    exact ⟨two_int (sze_arg (.inr (.inr c3))).2.symm (sze_arg (.inr (.inr c3))).1.symm, rfl⟩
  by_cases c4 : 1048576 < ct
  · go_enter Try.func54, Try.ntmps54
    go_wp2
    go_ret2
    exact ⟨two_int (sze_many (wd := wd) (ct := ct) (by omega) (by omega)).2.symm (sze_many (wd := wd) (ct := ct) (by omega) (by omega)).1.symm, rfl⟩
  obtain ⟨p1, p2⟩ := prod_le ct wd (by omega) (by omega) (by omega) (by omega)
  by_cases c5 : 1048576 < (ct * wd + 7) / 8
  · go_enter Try.func54, Try.ntmps54
    go_wp2
    go_ret2
    exact ⟨two_int (sze_long (wd := wd) (ct := ct) (by omega) (by omega) (by omega)).2.symm (sze_long (wd := wd) (ct := ct) (by omega) (by omega) (by omega)).1.symm, rfl⟩
  · go_enter Try.func54, Try.ntmps54
    go_wp2
    go_ret2
    exact ⟨two_int (sze_ok (wd := wd) (ct := ct) (by omega) (by omega) (by omega)).2.symm (sze_ok (wd := wd) (ct := ct) (by omega) (by omega) (by omega)).1.symm, rfl⟩

set_option maxRecDepth 100000 in
set_option maxHeartbeats 1000000 in
theorem rsize_any (wd ct : Int) (w : World) (h1 : -9223372036854775808 ≤ wd) (h2 : wd ≤ 9223372036854775807) (h3 : -9223372036854775808 ≤ ct) (h4 : ct ≤ 9223372036854775807) :
    Calls Try.prog 36 #[.int .i64 wd, .int .i64 ct] w fun e w' => e = .returned (.tuple #[.int .i64 (szv wd ct), .int .i64 (sze wd ct)]) ∧ w' = w := by
  by_cases c1 : wd < 0
  · go_enter Try.func36, Try.ntmps36
    go_wp2
    go_ret2
    exact ⟨two_int (sze_arg (.inl c1)).2.symm (sze_arg (.inl c1)).1.symm, rfl⟩
  by_cases c2 : 64 < wd
  · go_enter Try.func36, Try.ntmps36
    go_wp2
    go_ret2
    exact ⟨two_int (sze_arg (.inr (.inl c2))).2.symm (sze_arg (.inr (.inl c2))).1.symm, rfl⟩
  by_cases c3 : ct < 0
  · go_enter Try.func36, Try.ntmps36
    go_wp2
    go_ret2
    exact ⟨two_int (sze_arg (.inr (.inr c3))).2.symm (sze_arg (.inr (.inr c3))).1.symm, rfl⟩
  by_cases c4 : 1048576 < ct
  · go_enter Try.func36, Try.ntmps36
    go_wp2
    go_ret2
    exact ⟨two_int (sze_many (wd := wd) (ct := ct) (by omega) (by omega)).2.symm (sze_many (wd := wd) (ct := ct) (by omega) (by omega)).1.symm, rfl⟩
  obtain ⟨p1, p2⟩ := prod_le ct wd (by omega) (by omega) (by omega) (by omega)
  by_cases c5 : 1048576 < (ct * wd + 7) / 8
  · go_enter Try.func36, Try.ntmps36
    go_wp2
    go_ret2
    exact ⟨two_int (sze_long (wd := wd) (ct := ct) (by omega) (by omega) (by omega)).2.symm (sze_long (wd := wd) (ct := ct) (by omega) (by omega) (by omega)).1.symm, rfl⟩
  · go_enter Try.func36, Try.ntmps36
    go_wp2
    go_ret2
    exact ⟨two_int (sze_ok (wd := wd) (ct := ct) (by omega) (by omega) (by omega)).2.symm (sze_ok (wd := wd) (ct := ct) (by omega) (by omega) (by omega)).1.symm, rfl⟩
end Go.Proofs.Ytdglobonbhkheaa
