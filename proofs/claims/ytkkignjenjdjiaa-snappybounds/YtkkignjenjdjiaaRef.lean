/-
  The reference: numbers, parts.
-/
import Derived.Test.YtkkignjenjdjiaaRdA
namespace Go.Proofs.Ytkkignjenjdjiaa
set_option linter.unusedVariables false
set_option linter.unusedSimpArgs false
open Go.ChangeShapes Go.WideShapes Go.ChangeAt Go.RowKit

theorem drop_getD (l : List Nat) (i : Nat) (h : i < l.length) : l.drop i = l.getD i 0 :: l.drop (i + 1) := by
  rw [List.drop_eq_getElem_cons h]
  simp [List.getD, List.getElem?_eq_getElem h]

set_option maxRecDepth 100000 in
set_option maxHeartbeats 1000000 in
theorem rnumber_any (w : World) (a : Option Addr) (bs : List Nat) (cp : Nat) (hs : Src w a bs.length cp (c8 bs)) (h8 : ∀ c ∈ bs, c < 256) (hl : bs.length ≤ 140737488355328) :
    Calls Try.prog 16 #[.slice a bs.length cp] w fun e w' => w' = w ∧ match sNum bs with
      | .ok (n, r) => e = .returned (.tuple #[.int .i64 (n : Int), .int .i64 ((bs.length - r.length : Nat) : Int), .int .i64 0])
      | .error c => e = .returned (.tuple #[.int .i64 0, .int .i64 0, .int .i64 c]) := by
  refine calls_of fun Q HQ => ?_
  obtain ⟨res, HR⟩ : ∃ r, Hid (sNum bs = r) := ⟨_, rfl⟩
  have QOK : ∀ n r, res = .ok (n, r) → Q (.returned (.tuple #[.int .i64 (n : Int), .int .i64 ((bs.length - r.length : Nat) : Int), .int .i64 0])) w := fun x r e => HQ _ _ ⟨rfl, by rw [HR.out, e]⟩
  have QNO : ∀ c, res = .error c → Q (.returned (.tuple #[.int .i64 0, .int .i64 0, .int .i64 c])) w := fun c e => HQ _ _ ⟨rfl, by rw [HR.out, e]⟩
  clear HQ
  obtain ⟨L, hL⟩ : ∃ L, L = bs.length := ⟨_, rfl⟩
  have HL : Hid (L = bs.length) := hL
  have HS : Hid (Src w a L cp (c8 bs)) := by rw [hL]; exact hs
  have H8 : Hid (∀ c ∈ bs, c < 256) := h8
  rw [← hL] at hl ⊢
  clear hs hL h8
  go_enter Try.func16, Try.ntmps16
  go_wp2_with fail
  go_loop [5, 6] (fun nv iv => ∃ n i : Nat, nv = .int .i64 (n : Int) ∧ iv = .int .i64 (i : Int) ∧ i ≤ 4 ∧ Hid (n < 2 ^ (7 * i) ∧ i ≤ L ∧ sNumF n i (bs.drop i) = res)) (fun _ iv => 5 - (intOf iv).toNat)
  case atStart => exact ⟨0, 0, rfl, rfl, by omega, by simp, Nat.zero_le _, HR.out⟩
  case round =>
    obtain ⟨n, i, rfl, rfl, hi, HN⟩ := hrel
    have hi' : (i : Int) < 5 := by omega
    by_cases hlt : i < L
    · have hlt' : (i : Int) < (L : Int) := by omega
      obtain ⟨g, off, rfl, hcell⟩ := src_at HS.out hlt
      have hiL : i < bs.length := by rw [← HL.out]; exact hlt
      obtain ⟨n1, _, n3⟩ := HN.out
      rw [drop_getD bs i hiL] at n3
      obtain ⟨c, hc⟩ : ∃ c, c = bs.getD i 0 := ⟨_, rfl⟩
      have hc8 : c < 256 := by rw [hc]; exact H8.out _ (getD_mem _ _ hiL)
      have hc' : (c : Int) < 256 := by omega
      rw [← hc] at hcell n3
      clear hc
      simp only [sNumF] at n3
      obtain ⟨s, hs⟩ : ∃ s : Nat, s = 7 * i := ⟨_, rfl⟩
      rw [← hs] at n1 n3
      have hsi : (7 : Int) * (i : Int) = (s : Int) := by omega
      have hs28 : s ≤ 28 := by omega
      have hmin : min s 64 = s := by omega
      obtain ⟨d, hd⟩ : ∃ d : Nat, d = c % 128 := ⟨_, rfl⟩
      have hd2 : d < 128 := by omega
      have hdi : (c : Int) % 128 = (d : Int) := by omega
      rw [← hd] at n3
      have p28 : 2 ^ s ≤ 2 ^ 28 := Nat.pow_le_pow_right (by omega) hs28
      obtain ⟨S, hS⟩ : ∃ S : Nat, S = d * 2 ^ s := ⟨_, rfl⟩
      have hSl : S ≤ 127 * 2 ^ 28 := by rw [hS]; exact Nat.mul_le_mul (by omega) p28
      have y1 : IntKind.i64.wrap ((d : Int) * 2 ^ s) = (S : Int) := by
        have e : (d : Int) * 2 ^ s = ((d * 2 ^ s : Nat) : Int) := by simp
        rw [e, ← hS, IntKind.wrap_i64]
        omega
      have hnl : n < 2 ^ 28 := Nat.lt_of_lt_of_le n1 p28
      obtain ⟨N, hN⟩ : ∃ N : Nat, N = n + S := ⟨_, rfl⟩
      have hNi : (n : Int) + (S : Int) = (N : Int) := by omega
      have hN7 : N < 2 ^ (s + 7) := by
        rw [hN, hS, Nat.pow_add]
        have h3 : d * 2 ^ s ≤ 127 * 2 ^ s := Nat.mul_le_mul_right _ (by omega)
        generalize 2 ^ s = z at *
        omega
      rw [← hS, ← hN] at n3
      have hNl' : (N : Int) ≤ 34359738368 := by omega
      have hnl' : (n : Int) ≤ 268435456 := by omega
      have hSl' : (S : Int) ≤ 34359738368 := by omega
      by_cases h4 : i = 4 ∧ 15 < c
      · obtain ⟨h4, h15⟩ := h4
        have hs2 : s = 28 := by omega
        have HE : Hid (res = .error 8) := by
          show _ = _
          rw [← n3, if_pos]
          left
          rw [hN, hS, hs2]
          split <;> omega
        have h15' : (15 : Int) < (c : Int) := by omega
        subst h4
        clear n3 HN hd hs hS n1 hN hN7 p28 hs2 hsi
        go_wp2_with fail
        go_ret3
        exact QNO 8 HE.out
      by_cases i4 : i = 4
      · subst i4
        have hs2 : s = 28 := by omega
        have hc15 : c ≤ 15 := by omega
        have hc15' : (c : Int) ≤ 15 := by omega
        have hdc : d = c := by omega
        have hS2 : S = d * 268435456 := by rw [hS, hs2]
        have hNs : N ≤ 4294967295 := by omega
        rw [if_neg (show ¬ 128 ≤ c by omega)] at n3
        by_cases b2 : c = 0
        · rw [if_pos (.inr ⟨b2, by omega⟩)] at n3
          have HE : Hid (res = .error 8) := n3.symm
          subst b2
          clear n3 HN hd hs hS n1 hN hN7 p28 hs2 hsi y1 hNi hSl hSl' hdi h4 hdc hS2 hmin
          go_wp2_with fail
          go_ret3
          exact QNO 8 HE.out
        · rw [if_neg (by omega), if_pos (by omega)] at n3
          have HE : Hid (res = .ok (N, bs.drop (4 + 1))) := n3.symm
          have HLL : Hid (bs.length - (bs.drop (4 + 1)).length = 5) := by show _ = _; rw [List.length_drop]; omega
          have q := QOK N _ HE.out
          rw [HLL.out] at q
          have HNN : Hid ((N : Int) = (n : Int) + (d : Int) * 268435456) := by show _ = _; omega
          rw [HNN.out] at q
          have b2' : ¬ (c : Int) = 0 := by omega
          clear n3 HN hd hs hS n1 hN hN7 p28 hs2 hsi y1 hNi hSl hSl' h4 hdc hS2 hmin
          go_wp2_with fail
          go_ret3
          exact q
      have i4' : ¬ (i : Int) = 4 := by omega
      by_cases b1 : 128 ≤ c
      · have hi3 : i ≤ 3 := by omega
        have p21 : 2 ^ s ≤ 2 ^ 21 := Nat.pow_le_pow_right (by omega) (by omega)
        rw [if_neg, if_neg (by omega)] at n3
        · have HN' : Hid (N < 2 ^ (7 * (i + 1)) ∧ i + 1 ≤ L ∧ sNumF N (i + 1) (bs.drop (i + 1)) = res) := by
            have e1 : 7 * (i + 1) = s + 7 := by omega
            rw [e1]
            exact ⟨hN7, hlt, n3⟩
          have b1' : (128 : Int) ≤ (c : Int) := by omega
          clear n3 HN hd hs hS n1 hN hN7 p28 p21
          go_wp2_with fail
          go_round
          case rel => exact ⟨N, i + 1, rfl, by go_num, by omega, HN'⟩
          case measure => simp [intOf]; omega
        · rw [if_pos b1, hN, hS]
          have : d * 2 ^ s ≤ 127 * 2 ^ 21 := Nat.mul_le_mul (by omega) p21
          omega
      · have b1' : (c : Int) < 128 := by omega
        have hNs : N ≤ 4294967295 := by
          have hdc : d = c := by omega
          rcases Nat.lt_or_ge i 4 with h | h
          · have p21 : 2 ^ s ≤ 2 ^ 21 := Nat.pow_le_pow_right (by omega) (by omega)
            have : d * 2 ^ s ≤ 127 * 2 ^ 21 := Nat.mul_le_mul (by omega) p21
            omega
          · have hs2 : s = 28 := by omega
            have hd15 : d ≤ 15 := by omega
            have : d * 2 ^ s ≤ 15 * 2 ^ 28 := Nat.mul_le_mul hd15 p28
            omega
        rw [if_neg b1] at n3
        by_cases b2 : c = 0 ∧ 0 < i
        · obtain ⟨b2, b3⟩ := b2
          rw [if_pos (.inr ⟨b2, b3⟩)] at n3
          have HE : Hid (res = .error 8) := n3.symm
          have b3' : (0 : Int) < (i : Int) := by omega
          subst b2
          clear n3 HN hd hs hS n1 hN hN7 p28 y1 hNi hSl hSl' hdi
          go_wp2_with fail
          go_ret3
          exact QNO 8 HE.out
        · rw [if_neg (by omega), if_pos (by omega)] at n3
          have HE : Hid (res = .ok (N, bs.drop (i + 1))) := n3.symm
          have HLL : Hid (bs.length - (bs.drop (i + 1)).length = i + 1) := by show _ = _; rw [List.length_drop]; omega
          have q := QOK N _ HE.out
          rw [HLL.out] at q
          by_cases b5 : c = 0
          · have b6 : i = 0 := by omega
            subst b5
            subst b6
            have hN0 : N = n := by have : S = 0 := by rw [hS, hd]; simp
                                   omega
            subst hN0
            clear n3 HN hd hs hS n1 hN hN7 p28 y1 hNi hSl hSl' hdi b2
            simp only [Nat.add_zero] at hcell
            go_wp2_with fail
            go_ret3
            exact q
          · have b5' : ¬ (c : Int) = 0 := by omega
            clear n3 HN hd hs hS n1 hN hN7 p28 b2
            go_wp2_with fail
            go_ret3
            exact q
    · have hlt' : (L : Int) ≤ (i : Int) := by omega
      have HE : Hid (res = .error 6) := by
        show _ = _
        rw [← HN.out.2.2, List.drop_eq_nil_of_le (by rw [← HL.out]; omega)]
        rfl
      go_wp2_with fail
      go_ret3
      exact QNO 6 HE.out
end Go.Proofs.Ytkkignjenjdjiaa
