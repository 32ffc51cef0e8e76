/-
  What bits.Width and the reference's Width answer: how many bits a number needs; the world stays.
-/
import Derived.Test.YtdglobonbhkheaaRows
import Derived.Test.YtdglobonbhkheaaBLen
import Derived.WalkKit
import Derived.ProofKit
import Derived.OpenShut
namespace Go.Proofs.Ytdglobonbhkheaa
open Go.ChangeShapes Go.WideShapes Go.ChangeAt Go.RowKit

theorem bl_le64 (x : Nat) (h : x < 18446744073709551616) : Lib.bitLen x ≤ 64 := Lib.bitLen_le x 64 (by omega) (by omega)
theorem bl_zero : Lib.bitLen 0 = 0 := by decide

set_option maxRecDepth 100000 in
set_option maxHeartbeats 400000 in
theorem width_any (x : Int) (w : World) (h0 : 0 ≤ x) (h1 : x ≤ 18446744073709551615) :
    Calls Try.prog 82 #[.int .u64 x] w fun e w' => e = .returned (.int .i64 (Lib.bitLen x.toNat)) ∧ w' = w := by
  go_enter Try.func82, Try.ntmps82
  go_wp2_with (go_at_call 90; refine (len64_any _ _ h0 h1).mono ?_; rintro e w' ⟨rfl, rfl⟩)
  go_ret
  exact ⟨rfl, rfl⟩

set_option maxRecDepth 100000 in
set_option maxHeartbeats 400000 in
theorem rwidth_any (x : Int) (w : World) (h0 : 0 ≤ x) (h1 : x ≤ 18446744073709551615) :
    Calls Try.prog 35 #[.int .u64 x] w fun e w' => e = .returned (.int .i64 (Lib.bitLen x.toNat)) ∧ w' = w := by
  have hb := bl_le64 x.toNat (by omega)
  go_enter Try.func35, Try.ntmps35
  go_wp2
  go_loop [0, 3] (fun n k => ∃ (m : Int) (j : Nat), 0 ≤ m ∧ m ≤ 18446744073709551615 ∧ n = .int .u64 m ∧ k = .int .i64 j ∧ Hid (j + Lib.bitLen m.toNat = Lib.bitLen x.toNat)) (fun n _ => (intOf n).toNat)
  case atStart => exact ⟨x, 0, h0, h1, rfl, rfl, Nat.zero_add _⟩
  case round =>
    obtain ⟨m, j, hm0, hm1, rfl, rfl, H⟩ := hrel
    have hj : j ≤ 64 := by have := H.out; omega
    by_cases hlt : 0 < m
    · go_wp2
      go_round
      case rel =>
        refine ⟨m / 2, j + 1, by omega, by omega, rfl, by go_num, ?_⟩
        have e := H.out
        rw [Lib.bitLen_half m.toNat (by omega) (by omega)] at e
        show j + 1 + Lib.bitLen (m / 2).toNat = Lib.bitLen x.toNat
        rw [show (m / 2).toNat = m.toNat / 2 from by omega]
        omega
      case measure => simp [intOf]; omega
    · go_wp2
      go_ret
      refine ⟨?_, rfl⟩
      have e := H.out
      rw [show m.toNat = 0 from by omega, bl_zero] at e
      simp
      omega
end Go.Proofs.Ytdglobonbhkheaa
