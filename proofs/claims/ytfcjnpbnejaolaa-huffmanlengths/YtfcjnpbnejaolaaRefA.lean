/-
  The reference's Weigh and Codes.
-/
import Derived.Test.YtfcjnpbnejaolaaWorks
namespace Go.Proofs.Ytfcjnpbnejaolaa
set_option linter.unusedVariables false
set_option linter.unusedSimpArgs false
open Go.ChangeShapes Go.WideShapes Go.ChangeAt Go.RowKit

theorem sumW_le (m : List Nat) : sumW m ≤ m.length * 32768 := by
  refine snoc_rec (P := fun m => sumW m ≤ m.length * 32768) (by simp [sumW]) ?_ m
  intro m x ih
  rw [sumW_snoc, List.length_append, List.length_singleton]
  have : one x ≤ 32768 := by
    unfold one
    split
    · omega
    · exact (show 2 ^ (15 - x) ≤ 2 ^ 15 from Nat.pow_le_pow_right (by omega) (by omega))
  omega
set_option maxHeartbeats 2000000 in
theorem rweigh_any (w : World) (a : Option Addr) (len cap : Nat) (l : List Int) (hs : Src w a len cap (ci l)) (hlen : len ≤ 17592186044416) :
    Calls Try.prog 11 #[.slice a len cap] w fun e w' => e = .returned (.tuple #[.int .i64 (weiV l), .int .i64 (refu 15 l)]) ∧ w' = w := by
  have hl : l.length = len := by have := hs.1; rwa [ci_len] at this
  have hlen' : (len : Int) ≤ 17592186044416 := by omega
  have HS : Hid (∀ k, k < len → ∃ g off, a = some ⟨g, off, none⟩ ∧ w.cell? ⟨g, off + k, none⟩ = some (.int .i64 (l.getD k 0))) := fun k hk => src_at hs hk
  have HL : Hid (l.length = len) := hl
  refine calls_of fun Q HQ => ?_
  have QA : Hid (refu 15 l ≠ 0 → Q (.returned (.tuple #[.int .i64 0, .int .i64 (refu 15 l)])) w) := fun h => HQ _ _ ⟨by unfold weiV; rw [if_pos h], rfl⟩
  have QB : Hid (refu 15 l = 0 → Q (.returned (.tuple #[.int .i64 ((wgt (l.map Int.toNat) : Nat) : Int), .int .i64 0])) w) := fun h => HQ _ _ ⟨by unfold weiV; rw [if_neg (by simp [h]), h], rfl⟩
  clear hs hl HQ
  go_enter Try.func11, Try.ntmps11
  go_wp2
  go_loop [5] (fun c => ∃ k : Nat, k ≤ len ∧ c = .int .i64 k ∧ Hid ((l.take k).any (bad 15) = false)) (fun c => len - (intOf c).toNat)
  case atStart => exact ⟨0, Nat.zero_le _, rfl, by show _ = _; simp⟩
  case round =>
    obtain ⟨k, hk, rfl, HA⟩ := hrel
    by_cases hlt : k < len
    · have hlt' : (k : Int) < (len : Int) := by omega
      obtain ⟨g, off, rfl, hc⟩ := HS.out k hlt
      have HN : Hid ((l.take (k + 1)).any (bad 15) = bad 15 (l.getD k 0)) := any_take (by rw [HL.out]; exact hlt) HA.out
      have HB2 : Hid (bad 15 (l.getD k 0) = true → refu 15 l = 2) := by
        intro hb
        have h2 : l.any (bad 15) = true := by
          have h3 := HN.out
          rw [hb] at h3
          obtain ⟨y, hy, hb⟩ := List.any_eq_true.1 h3
          exact List.any_eq_true.2 ⟨y, List.mem_of_mem_take hy, hb⟩
        unfold refu
        rw [if_pos h2]
      generalize l.getD k 0 = x at *
      by_cases h1 : x < 0
      · have q := QA.out
        rw [HB2.out (by unfold bad; simp; omega)] at q
        have q2 : Hid _ := q (by decide)
        clear q QA
        go_wp2
        exact q2.out
      · by_cases h2 : 15 < x
        · have q := QA.out
          rw [HB2.out (by unfold bad; simp; omega)] at q
          have q2 : Hid _ := q (by decide)
          clear q QA
          go_wp2
          exact q2.out
        · have h2' : x ≤ 15 := by omega
          have HB : Hid ((l.take (k + 1)).any (bad 15) = false) := by
            show _ = _
            rw [HN.out]
            unfold bad
            simp
            omega
          go_wp2
          go_round
          case rel => exact ⟨k + 1, by omega, by go_num, HB⟩
          case measure => simp [intOf]; omega
    · have hge : (len : Int) ≤ (k : Int) := by omega
      have HB : Hid (refu 15 l = if 1000 < len then 3 else 0) := by
        show _ = _
        unfold refu
        have h3 := HA.out
        rw [List.take_of_length_le (by rw [HL.out]; omega)] at h3
        rw [h3, HL.out]
        simp
      by_cases h1 : 1000 < len
      · have h1' : (1000 : Int) < (len : Int) := by omega
        have q := QA.out
        rw [HB.out, if_pos h1] at q
        have q2 : Hid _ := q (by decide)
        clear q QA QB
        go_wp2
        exact q2.out
      · have h1' : (len : Int) ≤ 1000 := by omega
        have HR : Hid (refu 15 l = 0) := by show _ = _; rw [HB.out, if_neg h1]
        obtain ⟨m, hm, h15⟩ : ∃ m : List Nat, l = nm m ∧ ∀ x ∈ m, (x : Int) ≤ 15 := (refu_ok HR.out).2
        have q := QB.out HR.out
        subst hm
        rw [nm_toNat, wgt_sum m (fun x hx => by have := h15 x hx; omega)] at q
        have HML : Hid (m.length = len) := by have := HL.out; rwa [nm_len] at this
        have q2 : Hid (Q (.returned (.tuple #[.int .i64 ((sumW (m.take len) : Nat) : Int), .int .i64 0])) w) := by show Q _ _; rw [List.take_of_length_le (by rw [HML.out]; exact Nat.le_refl _)]; exact q
        have H15 : Hid (∀ j, m.getD j 0 ≤ 15) := fun k => by
          rcases Nat.lt_or_ge k m.length with h | h
          · rw [getD_eq h]; have := h15 _ (List.getElem_mem h); omega
          · simp [List.getD, List.getElem?_eq_none h]
        clear q QA QB HB HR HA h15 hge
        go_wp2
        go_loop [4, 6] (fun s c => ∃ j : Nat, j ≤ len ∧ c = .int .i64 j ∧ s = .int .i64 ((sumW (m.take j) : Nat) : Int)) (fun _ c => len - (intOf c).toNat)
        case atStart => exact ⟨0, Nat.zero_le _, rfl, rfl⟩
        case round =>
          obtain ⟨j, hj, rfl, rfl⟩ := hrel
          by_cases hlt : j < len
          · have hlt' : (j : Int) < (len : Int) := by omega
            obtain ⟨g, off, rfl, hc⟩ := HS.out j hlt
            rw [nm_getD] at hc
            have HE : Hid (sumW (m.take (j + 1)) = sumW (m.take j) + one (m.getD j 0)) := by show _ = _; rw [take_succ_getD m j (by rw [HML.out]; exact hlt), sumW_snoc]
            have hx := H15.out j
            have hsl := sumW_le (m.take j)
            rw [List.length_take] at hsl
            have hsl2 : ((sumW (m.take j) : Nat) : Int) ≤ 32768000 := by omega
            generalize sumW (m.take j) = q at *
            generalize m.getD j 0 = x at *
            clear hsl
            by_cases hx0 : x = 0
            · subst hx0
              have HN : Hid (sumW (m.take (j + 1)) = q) := by show _ = _; rw [HE.out]; simp [one]
              clear HE
              go_wp2
              go_round
              case rel => exact ⟨j + 1, by omega, by go_num, by rw [HN.out]⟩
              case measure => simp [intOf]; omega
            · have hxp : (0 : Int) < (x : Int) := by omega
              obtain ⟨y, hy⟩ : ∃ y, y = 15 - x := ⟨_, rfl⟩
              have hyi : (15 : Int) - (x : Int) = (y : Int) := by omega
              have m1 := shl_wrap y (by omega)
              have hpl : 2 ^ y ≤ 32768 := (show 2 ^ y ≤ 2 ^ 15 from Nat.pow_le_pow_right (by omega) (by omega))
              have HN : Hid (sumW (m.take (j + 1)) = q + 2 ^ y) := by show _ = _; rw [HE.out]; unfold one; rw [if_neg hx0, hy]
              generalize hp : 2 ^ y = p at m1 hpl HN
              have hpl' : (p : Int) ≤ 32768 := by omega
              clear HE hy hp hx0
              go_wp2
              go_round
              case rel => exact ⟨j + 1, by omega, by go_num, by rw [HN.out]; go_num⟩
              case measure => simp [intOf]; omega
          · have hge : (len : Int) ≤ (j : Int) := by omega
            have HJ : Hid (j = len) := by show _ = _; omega
            rw [← HJ.out] at q2
            go_wp2
            exact q2.out
end Go.Proofs.Ytfcjnpbnejaolaa
