/-
  The library's search in a row of numbers that rise.
-/
import Derived.Test.YtikoddlidhefpaaJ2
namespace Go.Proofs.Ytikoddlidhefpaa
set_option linter.unusedVariables false
open Go.ChangeShapes Go.WideShapes Go.ChangeAt Go.RowKit Go.Deep

theorem rising_lt : ∀ {l : List Int} {a : Int}, risingB l a = true → ∀ {i j : Nat}, i < j → j < l.length → l.getD i 0 < l.getD j 0
  | [], _, _, i, j, _, hj => by simp at hj
  | x :: r, a, h, i, j, hij, hj => by
    simp only [risingB, Bool.and_eq_true, decide_eq_true_eq] at h
    cases j with
    | zero => omega
    | succ j =>
      have hj' : j < r.length := by simpa using hj
      have first : ∀ {l : List Int} {a : Int}, risingB l a = true → ∀ {j : Nat}, j < l.length → a < l.getD j 0 := by
        intro l
        induction l with
        | nil => intro a _ j hj; simp at hj
        | cons y s ih =>
          intro a h j hj
          simp only [risingB, Bool.and_eq_true, decide_eq_true_eq] at h
          cases j with
          | zero => simpa using h.1.1
          | succ j =>
            have := ih h.2 (j := j) (by simpa using hj)
            simp only [List.getD_cons_succ]
            omega
      cases i with
      | zero =>
        have := first h.2 hj'
        simpa using this
      | succ i =>
        have := rising_lt h.2 (i := i) (j := j) (by omega) hj'
        simpa using this

theorem isNaN_any (n : Int) (w : World) : Calls Try.prog 89 #[.int .i64 n] w fun e w' => e = .returned (.bool false) ∧ w' = w := by
  go_enter Try.func89, Try.ntmps89
  go_wp2
  go_ret
  exact ⟨by simp, rfl⟩
theorem slNaN_any (n : Int) (w : World) : Calls Try.prog 67 #[.int .i64 n] w fun e w' => e = .returned (.bool false) ∧ w' = w := by
  go_enter Try.func67, Try.ntmps67
  go_wp2
  go_ret
  exact ⟨by simp, rfl⟩
theorem less_any (x y : Int) (w : World) : Calls Try.prog 66 #[.int .i64 x, .int .i64 y] w fun e w' => e = .returned (.bool (decide (x < y))) ∧ w' = w := by
  have K := fun n W => isNaN_any n W
  go_enter Try.func66, Try.ntmps66
  go_wp2_with (go_at_call 89; refine (K _ _).mono ?_; rintro e wx ⟨rfl, hwx⟩; obtain rfl := hwx.symm)
  go_ret
  exact ⟨by simp, rfl⟩

set_option maxRecDepth 10000 in
set_option maxHeartbeats 2000000 in
theorem bin_any (w : World) (a : Option Addr) (cap : Nat) (l : List Int) (id : Int) (hl : l.length ≤ 140737488355328) (h : Src w a l.length cap (c64 l)) (hr : risingB l 0 = true) :
    Calls Try.prog 41 #[.slice a l.length cap, .int .i64 id] w fun e w' => w' = w ∧ ∃ i : Nat, i ≤ l.length ∧ e = .returned (.tuple #[.int .i64 i, .bool (decide (i < l.length ∧ l.getD i 0 = id))]) ∧ (∀ k, k < i → l.getD k 0 < id) ∧ (∀ k, i ≤ k → k < l.length → id ≤ l.getD k 0) := by
  obtain ⟨L, hL⟩ : ∃ L, L = l.length := ⟨_, rfl⟩
  rw [← hL] at h hl ⊢
  have HL : Hid (L = l.length) := hL
  have HR : Hid (risingB l 0 = true) := hr
  have hl' : (L : Int) ≤ 140737488355328 := by omega
  clear hL hr
  go_enter Try.func41, Try.ntmps41
  go_wp2_with fail
  go_loop [7, 8] (fun iv jv => ∃ i j : Nat, iv = .int .i64 i ∧ jv = .int .i64 j ∧ i ≤ j ∧ j ≤ L ∧ Hid (∀ k, k < i → l.getD k 0 < id) ∧ Hid (∀ k, j ≤ k → k < L → id ≤ l.getD k 0)) (fun iv jv => (intOf jv - intOf iv).toNat)
  case atStart => exact ⟨0, L, rfl, rfl, Nat.zero_le _, Nat.le_refl _, fun k hk => by omega, fun k h1 h2 => by omega⟩
  case round =>
    obtain ⟨i, j, rfl, rfl, hij, hj, HI, HJ⟩ := hrel
    have hj' : (j : Int) ≤ (L : Int) := by omega
    by_cases hlt : i < j
    · have hlt' : (i : Int) < (j : Int) := by omega
      obtain ⟨m, hm⟩ : ∃ m : Nat, m = (i + j) / 2 := ⟨_, rfl⟩
      have m1 : i ≤ m := by omega
      have m2 : m < j := by omega
      have m3 : ((i : Int) + (j : Int)) / 2 = (m : Int) := by omega
      have m4 : (m : Int) < (L : Int) := by omega
      obtain ⟨g, off, rfl, k1⟩ := ids_at h (j := m) (by omega)
      have HZ : Hid (∀ k, k ≤ m → l.getD k 0 ≤ l.getD m 0) := by
        intro k hk
        rcases Nat.lt_or_ge k m with h1 | h1
        · have := rising_lt HR.out h1 (by have := HL.out; omega); omega
        · have : k = m := by omega
          subst this; omega
      have HZ2 : Hid (∀ k, m ≤ k → k < L → l.getD m 0 ≤ l.getD k 0) := by
        intro k hk hkl
        rcases Nat.lt_or_ge m k with h1 | h1
        · have := rising_lt HR.out h1 (by have := HL.out; omega); omega
        · have : k = m := by omega
          subst this; omega
      generalize l.getD m 0 = z at *
      have K := less_any z id w
      clear hm
      by_cases hz : z < id
      · rw [decide_eq_true hz] at K
        go_wp2_with fail
        refine K.mono ?_
        rintro e wx ⟨rfl, hwx⟩
        obtain rfl := hwx.symm
        go_wp2_with fail
        go_round
        case rel => exact ⟨m + 1, j, by go_num, rfl, by omega, hj, fun k hk => by have := HZ.out k (by omega); omega, HJ⟩
        case measure => simp [intOf]; omega
      · rw [decide_eq_false hz] at K
        go_wp2_with fail
        refine K.mono ?_
        rintro e wx ⟨rfl, hwx⟩
        obtain rfl := hwx.symm
        go_wp2_with fail
        go_round
        case rel => exact ⟨i, m, rfl, rfl, m1, by omega, HI, fun k h1 h2 => by have := HZ2.out k h1 h2; omega⟩
        case measure => simp [intOf]; omega
    · have hlt' : (j : Int) ≤ (i : Int) := by omega
      have hij2 : i = j := by omega
      have HJ' : Hid (∀ k, i ≤ k → k < L → id ≤ l.getD k 0) := by rw [hij2]; exact HJ
      by_cases hiL : i < L
      · have hiL' : (i : Int) < (L : Int) := by omega
        obtain ⟨g, off, rfl, k1⟩ := ids_at h (j := i) hiL
        obtain ⟨z, HZ⟩ : ∃ z, Hid (l.getD i 0 = z) := ⟨_, rfl⟩
        rw [HZ.out] at k1
        have K := fun n W => slNaN_any n W
        clear hij2
        by_cases hz : z = id
        · subst hz
          go_wp2_with fail
          go_ret2
          refine ⟨rfl, i, by omega, ?_, HI.out, HJ'.out⟩
          have h2 : l[i]?.getD 0 = z := HZ.out
          simp [hiL, h2]
        · go_wp2_with (go_at_call 67; refine (K _ _).mono ?_; rintro e wx ⟨rfl, hwx⟩; obtain rfl := hwx.symm)
          go_ret2
          exact ⟨rfl, i, by omega, by rw [decide_eq_false (by rintro ⟨_, h2⟩; rw [HZ.out] at h2; exact hz h2)]; simp; exact hz, HI.out, HJ'.out⟩
      · have hiL' : (L : Int) ≤ (i : Int) := by omega
        clear hij2
        go_wp2_with fail
        go_ret2
        exact ⟨rfl, i, by omega, by rw [decide_eq_false (by omega)]; simp, HI.out, HJ'.out⟩
end Go.Proofs.Ytikoddlidhefpaa
