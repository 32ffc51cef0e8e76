/-
  dict: are all numbers a dictionary's; how many bits they have.
-/
import Derived.Test.YtlajjkpcgokinaaHbF
import Derived.Test.YtlajjkpcgokinaaHbT
import Derived.Test.YtlajjkpcgokinaaHbU
namespace Go.Proofs.Ytlajjkpcgokinaa
set_option linter.unusedVariables false
set_option linter.unusedSimpArgs false
open Go.ChangeShapes Go.WideShapes Go.ChangeAt Go.RowKit Go.Sort

/-- all numbers are from 0 on, and below a bound -/
def allIn (s : Int) (zs : List Int) : Bool := zs.all fun z => decide (0 ≤ z ∧ z < s)
theorem allIn_take {s : Int} {zs : List Int} {i : Nat} (h : i < zs.length) (h1 : allIn s (zs.take i) = true) (h2 : 0 ≤ zs.getD i 0 ∧ zs.getD i 0 < s) : allIn s (zs.take (i + 1)) = true := by
  unfold allIn at h1 ⊢
  rw [List.take_succ_eq_append_getElem h, List.all_append, h1]
  simp [List.getD, List.getElem?_eq_getElem h] at h2 ⊢
  exact h2
theorem allIn_no {s : Int} {zs : List Int} {i : Nat} (h : i < zs.length) (h2 : ¬ (0 ≤ zs.getD i 0 ∧ zs.getD i 0 < s)) : allIn s zs = false := by
  unfold allIn
  rw [Bool.eq_false_iff]
  intro ha
  have := List.all_eq_true.1 ha _ (getD_mem h)
  simp only [decide_eq_true_eq] at this
  exact h2 this
theorem allIn_at {s : Int} {zs : List Int} (h : allIn s zs = true) {i : Nat} (hi : i < zs.length) : 0 ≤ zs.getD i 0 ∧ zs.getD i 0 < s := by
  have := List.all_eq_true.1 h _ (getD_mem hi)
  simpa only [decide_eq_true_eq] using this

set_option maxRecDepth 100000 in
set_option maxHeartbeats 2000000 in
theorem hasAll_any (ad : Option Addr) (L cap : Nat) (s : Int) (zs : List Int) (w : World) (hL : L ≤ 1048576) (hs : SrcI w ad L cap zs) :
    Calls Try.prog 16 #[.int .i64 s, .slice ad L cap] w fun e w' => e = .returned (.bool (allIn s zs)) ∧ Below w.heap.size w w' := by
  have hzl : zs.length = L := by simpa using hs.1
  have hL' : (L : Int) ≤ 1048576 := by omega
  refine calls_ofQ fun Q HQ => ?_
  have QOK : Hid (∀ b w', Below w.heap.size w w' → allIn s zs = b → Q (.returned (.bool b)) w') := fun b w' h e => HQ _ _ ⟨by rw [e], h⟩
  clear HQ
  go_enter Try.func16, Try.ntmps16
  go_wp2
  go_step3
  go_wp2
  go_step3
  go_wp2
  go_loopw [5, 10] (fun b c wr => ∃ i : Nat, b = .bool true ∧ c = .int .i64 (i : Int) ∧ i ≤ L ∧ Hid (allIn s (zs.take i) = true) ∧ Below w.heap.size w wr) (fun _ c _ => L - (intOf c).toNat)
  case atStart => exact ⟨0, rfl, rfl, Nat.zero_le _, rfl, Below.refl _ _⟩
  case round =>
    obtain ⟨i, rfl, rfl, hi, H, hb⟩ := hrel
    by_cases hlt : i < L
    · have hlt' : (i : Int) < (L : Int) := by omega
      obtain ⟨g, off, rfl, hcz⟩ := src_atI (Src.later hs hb) hlt
      have HY : Hid (0 ≤ zs.getD i 0 ∧ zs.getD i 0 < s → allIn s (zs.take (i + 1)) = true) := allIn_take (by omega) H.out
      have HN : Hid (¬ (0 ≤ zs.getD i 0 ∧ zs.getD i 0 < s) → allIn s zs = false) := allIn_no (by omega)
      generalize zs.getD i 0 = z at *
      by_cases h0 : z < 0
      · have HE : Hid (allIn s zs = false) := HN.out (by omega)
        go_wp2_with fail
        exact QOK.out _ _ hb HE.out
      · by_cases h1 : s ≤ z
        · have HE : Hid (allIn s zs = false) := HN.out (by omega)
          go_wp2_with fail
          exact QOK.out _ _ hb HE.out
        · have HE : Hid (allIn s (zs.take (i + 1)) = true) := HY.out (by omega)
          go_wp2_with fail
          exact ⟨⟨i + 1, rfl, by go_num, by omega, HE.out, hb⟩, by simp [intOf]; omega⟩
    · have hge : (L : Int) ≤ (i : Int) := by omega
      have HE : Hid (allIn s zs = true) := by
        have h := H.out
        rw [List.take_of_length_le (by omega)] at h
        exact h
      go_wp2_with fail
      exact QOK.out _ _ hb HE.out

/-- how many bits the numbers of a dictionary of so many values have -/
def dW (s : Nat) : Nat := Lib.bitLen (s - 1)
theorem dW_le {s : Nat} (h : s ≤ 65536) : dW s ≤ 16 := by
  unfold dW
  exact (fits_iff (s - 1) 16 (by omega) (by omega)).2 (by omega)
theorem dW_lt {s : Nat} (h : s ≤ 65536) : s - 1 < 2 ^ dW s := by
  have h16 : Lib.bitLen (s - 1) ≤ 16 := dW_le h
  exact (fits_iff (s - 1) (dW s) (by omega) (by unfold dW; omega)).1 (Nat.le_refl _)
theorem dW_fit {s : Nat} (h : s ≤ 65536) {zs : List Int} (ha : allIn (s : Int) zs = true) : FitI (dW s) zs := by
  intro x hx
  have := List.all_eq_true.1 ha x hx
  simp only [decide_eq_true_eq] at this
  have h2 := dW_lt h
  exact ⟨this.1, by omega⟩
set_option maxRecDepth 100000 in
set_option maxHeartbeats 1000000 in
theorem widthOf_any (s : Nat) (w : World) (hs : s ≤ 65536) :
    Calls Try.prog 17 #[.int .i64 (s : Int)] w fun e w' => e = .returned (.int .i64 (dW s : Nat)) ∧ w' = w := by
  by_cases h0 : s = 0
  · subst h0
    have WC := width_any 0 w (by omega) (by omega)
    rw [show Lib.bitLen (Int.toNat 0) = dW 0 by rfl] at WC
    go_enter Try.func17, Try.ntmps17
    go_wp2_with fail
    refine WC.mono ?_
    rintro e w' ⟨rfl, rfl⟩
    go_wp2_with fail
    go_ret
    exact ⟨rfl, rfl⟩
  · obtain ⟨n, rfl⟩ : ∃ n, s = n + 1 := ⟨s - 1, by omega⟩
    have hn : (n : Int) ≤ 65535 := by omega
    have e1 : ((n + 1 : Nat) : Int) - 1 = (n : Int) := by omega
    have WC := width_any (n : Int) w (by omega) (by omega)
    rw [show Lib.bitLen (Int.toNat (n : Int)) = dW (n + 1) by rfl] at WC
    go_enter Try.func17, Try.ntmps17
    go_wp2_with fail
    refine WC.mono ?_
    rintro e w' ⟨rfl, rfl⟩
    go_wp2_with fail
    go_ret
    exact ⟨rfl, rfl⟩
end Go.Proofs.Ytlajjkpcgokinaa
