/-
  What math/bits.Len64 answers: how many times a number can be halved till nothing is left; the world stays.
-/
import Derived.Test.YtdglobonbhkheaaChecked
import Derived.Lib.Strings
import Derived.Lib.Slices
import Derived.Lib.Small
import Derived.Lib.Walk
import Derived.Lib.BitFns
namespace Go.Proofs.Ytdglobonbhkheaa

theorem len_at (k p : Nat) (x t : Int) (hp : 2 ^ k = p) (h0 : 0 ≤ t) (h1 : t ≤ 255) (hx : x.toNat < 18446744073709551616) (ht : t.toNat = x.toNat / p)
    (hk : p ≤ x.toNat ∨ k = 0) : (k : Int) + Lib.len8 t = (Lib.bitLen x.toNat : Int) ∧ 0 ≤ Lib.len8 t ∧ Lib.len8 t ≤ 8 := by
  have l := Lib.bitLen_le8' t h0 h1
  rw [Lib.len8_of t h0 h1]
  refine ⟨?_, by omega, by omega⟩
  rw [ht]
  subst hp
  rcases hk with hk | rfl
  · rw [Lib.bitLen_shift k x.toNat hk (by omega)]; omega
  · simp

set_option maxRecDepth 100000 in
set_option maxHeartbeats 4000000 in

theorem len64_any (x : Int) (w : World) (h0 : 0 ≤ x) (h1 : x ≤ 18446744073709551615) :
    Calls Try.prog 90 #[.int .u64 x] w fun e w' => e = .returned (.int .i64 (Lib.bitLen x.toNat)) ∧ w' = w := by
  go_enter Try.func90, Try.ntmps90
  go_wp2
  all_goals (go_ret; refine ⟨congrArg Ending.returned (congrArg (Value.int IntKind.i64) ?_), rfl⟩)
  · obtain ⟨a, b, c⟩ := len_at 56 72057594037927936 x (x / 4294967296 / 65536 / 256 % 256) (by decide) (by omega) (by omega) (by omega) (by omega) (by omega)
    omega
  · obtain ⟨a, b, c⟩ := len_at 48 281474976710656 x (x / 4294967296 / 65536 % 256) (by decide) (by omega) (by omega) (by omega) (by omega) (by omega)
    omega
  · obtain ⟨a, b, c⟩ := len_at 40 1099511627776 x (x / 4294967296 / 256 % 256) (by decide) (by omega) (by omega) (by omega) (by omega) (by omega)
    omega
  · obtain ⟨a, b, c⟩ := len_at 32 4294967296 x (x / 4294967296 % 256) (by decide) (by omega) (by omega) (by omega) (by omega) (by omega)
    omega
  · obtain ⟨a, b, c⟩ := len_at 24 16777216 x (x / 65536 / 256 % 256) (by decide) (by omega) (by omega) (by omega) (by omega) (by omega)
    omega
  · obtain ⟨a, b, c⟩ := len_at 16 65536 x (x / 65536 % 256) (by decide) (by omega) (by omega) (by omega) (by omega) (by omega)
    omega
  · obtain ⟨a, b, c⟩ := len_at 8 256 x (x / 256 % 256) (by decide) (by omega) (by omega) (by omega) (by omega) (by omega)
    omega
  · obtain ⟨a, b, c⟩ := len_at 0 1 x (x % 256) (by decide) (by omega) (by omega) (by omega) (by omega) (by omega)
    omega
end Go.Proofs.Ytdglobonbhkheaa
