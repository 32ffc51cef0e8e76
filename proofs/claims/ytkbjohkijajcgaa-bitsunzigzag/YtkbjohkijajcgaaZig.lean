/-
  What bits.Zigzag, bits.Unzigzag and the reference's two functions answer, at every number of 64 bits: each leaves the world as it was.
-/
import Derived.Test.YtkbjohkijajcgaaRows
import Derived.WalkKit
import Derived.ProofKit
import Derived.OpenShut
import Derived.Laws.BitsAllLaws
namespace Go.Proofs.Ytkbjohkijajcgaa
open Go.ChangeShapes Go.WideShapes Go.ChangeAt Go.RowKit

/-- a number with a sign as one without -/
def zz (n : Int) : Int := if 0 ≤ n then 2 * n else -2 * n - 1
/-- and back -/
def uzz (n : Int) : Int := if n % 2 = 0 then n / 2 else -(n / 2) - 1

theorem zz_range (n : Int) (h1 : -9223372036854775808 ≤ n) (h2 : n ≤ 9223372036854775807) : 0 ≤ zz n ∧ zz n ≤ 18446744073709551615 := by
  unfold zz; split <;> omega
theorem uzz_range (n : Int) (h1 : 0 ≤ n) (h2 : n ≤ 18446744073709551615) : -9223372036854775808 ≤ uzz n ∧ uzz n ≤ 9223372036854775807 := by
  unfold uzz; split <;> omega
theorem uzz_zz (n : Int) : uzz (zz n) = n := by
  unfold uzz zz
  by_cases h : 0 ≤ n
  · rw [if_pos h, if_pos (by omega)]; omega
  · rw [if_neg h, if_neg (by omega)]; omega
theorem zz_uzz (n : Int) (h1 : 0 ≤ n) : zz (uzz n) = n := by
  unfold uzz zz
  by_cases h : n % 2 = 0
  · rw [if_pos h, if_pos (by omega)]; omega
  · rw [if_neg h, if_neg (by omega)]; omega

theorem xor_ones_u64 (a : Nat) (ha : a < 18446744073709551616) : bits .xor .u64 (a : Int) 18446744073709551615 = 18446744073709551615 - (a : Int) := by
  show IntKind.u64.wrap ((BitVec.ofInt 64 (a : Int) ^^^ BitVec.ofInt 64 18446744073709551615).toNat : Int) = _
  have h1 : BitVec.ofInt 64 18446744073709551615 = BitVec.allOnes 64 := by decide
  rw [h1, BitVec.xor_allOnes, BitVec.toNat_not, ofInt_u64 a (by omega)]
  simp [IntKind.wrap, IntKind.bits, IntKind.signed]
  omega
theorem xor_zero_u64 (a : Nat) (ha : a < 18446744073709551616) : bits .xor .u64 (a : Int) 0 = (a : Int) := by
  have := u64_xor_nat a 0 ha (by omega)
  simpa using this
theorem xor_ones_i64 (a : Nat) (ha : a < 9223372036854775808) : bits .xor .i64 (a : Int) (-1) = -1 - (a : Int) := by
  show IntKind.i64.wrap ((BitVec.ofInt 64 (a : Int) ^^^ BitVec.ofInt 64 (-1)).toNat : Int) = _
  have h1 : BitVec.ofInt 64 (-1) = BitVec.allOnes 64 := by decide
  rw [h1, BitVec.xor_allOnes, BitVec.toNat_not, ofInt_u64 a (by omega)]
  simp [IntKind.wrap, IntKind.bits, IntKind.signed]
  omega
theorem xor_zero_i64 (a : Nat) (ha : a < 9223372036854775808) : bits .xor .i64 (a : Int) 0 = (a : Int) := by
  show IntKind.i64.wrap ((BitVec.ofInt 64 (a : Int) ^^^ BitVec.ofInt 64 0).toNat : Int) = _
  have h1 : BitVec.ofInt 64 0 = 0#64 := by decide
  rw [h1, BitVec.xor_zero, ofInt_u64 a (by omega)]
  simp [IntKind.wrap, IntKind.bits, IntKind.signed]
  omega

theorem zig_val (a : Int) (h1 : -9223372036854775808 ≤ a) (h2 : a ≤ 9223372036854775807) :
    bits BinOp.xor IntKind.u64 (IntKind.u64.wrap (wrap64 (a * 2))) (IntKind.u64.wrap (a / 9223372036854775808)) = zz a := by
  rw [IntKind.wrap_u64, IntKind.wrap_u64]
  unfold wrap64 zz
  by_cases h : 0 ≤ a
  · rw [if_pos h]
    have e1 : ((a * 2 + 9223372036854775808) % 18446744073709551616 - 9223372036854775808) % 18446744073709551616 = ((2 * a).toNat : Int) := by omega
    have e2 : a / 9223372036854775808 % 18446744073709551616 = 0 := by omega
    rw [e1, e2, xor_zero_u64 _ (by omega)]
    omega
  · rw [if_neg h]
    have e1 : ((a * 2 + 9223372036854775808) % 18446744073709551616 - 9223372036854775808) % 18446744073709551616 = ((2 * a + 18446744073709551616).toNat : Int) := by omega
    have e2 : a / 9223372036854775808 % 18446744073709551616 = 18446744073709551615 := by omega
    rw [e1, e2, xor_ones_u64 _ (by omega)]
    omega

theorem unzig_val (a : Int) (h1 : 0 ≤ a) (h2 : a ≤ 18446744073709551615) :
    bits BinOp.xor IntKind.i64 (a / 2) (wrap64 (-wrap64 (bits BinOp.and IntKind.u64 a 1))) = uzz a := by
  have e : bits BinOp.and IntKind.u64 a 1 = a % 2 := by
    have := u64_and a 1 h1 (by omega) (by omega) (by omega)
    rw [this]
    have := nat_mask1 a.toNat
    simp [this]
    omega
  rw [e]
  unfold wrap64 uzz
  by_cases h : a % 2 = 0
  · rw [if_pos h, h]
    have e1 : a / 2 = ((a / 2).toNat : Int) := by omega
    rw [e1]
    simpa using xor_zero_i64 (a / 2).toNat (by omega)
  · rw [if_neg h]
    have e2 : a % 2 = 1 := by omega
    rw [e2]
    have e1 : a / 2 = ((a / 2).toNat : Int) := by omega
    rw [e1]
    have := xor_ones_i64 (a / 2).toNat (by omega)
    simp only [Int.reduceAdd, Int.reduceMod, Int.reduceSub, Int.reduceNeg]
    rw [this]
    omega

set_option maxHeartbeats 400000 in
theorem zig_any (a : Int) (w : World) (h1 : -9223372036854775808 ≤ a) (h2 : a ≤ 9223372036854775807) :
    Calls Try.prog 16 #[.int .i64 a] w fun e w' => e = .returned (.int .u64 (zz a)) ∧ w' = w := by
  go_enter Try.func16, Try.ntmps16
  go_wp2
  go_ret
  exact ⟨congrArg Ending.returned (congrArg (Value.int IntKind.u64) (zig_val a h1 h2)), rfl⟩
set_option maxHeartbeats 400000 in
theorem unzig_any (a : Int) (w : World) (h1 : 0 ≤ a) (h2 : a ≤ 18446744073709551615) :
    Calls Try.prog 18 #[.int .u64 a] w fun e w' => e = .returned (.int .i64 (uzz a)) ∧ w' = w := by
  go_enter Try.func18, Try.ntmps18
  go_wp2
  go_ret
  exact ⟨congrArg Ending.returned (congrArg (Value.int IntKind.i64) (unzig_val a h1 h2)), rfl⟩
set_option maxHeartbeats 400000 in
theorem rzig_any (a : Int) (w : World) (h1 : -9223372036854775808 ≤ a) (h2 : a ≤ 9223372036854775807) :
    Calls Try.prog 17 #[.int .i64 a] w fun e w' => e = .returned (.int .u64 (zz a)) ∧ w' = w := by
  by_cases h : 0 ≤ a
  · go_enter Try.func17, Try.ntmps17
    go_wp2
    go_ret
    exact ⟨congrArg Ending.returned (congrArg (Value.int IntKind.u64) (by unfold zz; rw [if_pos h])), rfl⟩
  · go_enter Try.func17, Try.ntmps17
    go_wp2
    go_ret
    exact ⟨congrArg Ending.returned (congrArg (Value.int IntKind.u64) (by unfold zz; rw [if_neg (by omega)]; omega)), rfl⟩
set_option maxHeartbeats 400000 in
theorem runzig_any (a : Int) (w : World) (h1 : 0 ≤ a) (h2 : a ≤ 18446744073709551615) :
    Calls Try.prog 19 #[.int .u64 a] w fun e w' => e = .returned (.int .i64 (uzz a)) ∧ w' = w := by
  by_cases h : a % 2 = 0
  · go_enter Try.func19, Try.ntmps19
    go_wp2
    go_ret
    exact ⟨congrArg Ending.returned (congrArg (Value.int IntKind.i64) (by unfold uzz; rw [if_pos h])), rfl⟩
  · go_enter Try.func19, Try.ntmps19
    go_wp2
    go_ret
    exact ⟨congrArg Ending.returned (congrArg (Value.int IntKind.i64) (by unfold uzz; rw [if_neg h])), rfl⟩
end Go.Proofs.Ytkbjohkijajcgaa
