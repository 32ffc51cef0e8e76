/-
  bits.taker's closure.
-/
import Derived.Test.YtlajjkpcgokinaaBB
import Derived.WalkMore
namespace Go.Proofs.Ytlajjkpcgokinaa
open Go.ChangeShapes Go.WideShapes Go.ChangeAt Go.RowKit

set_option maxRecDepth 100000 in
set_option maxHeartbeats 400000 in
theorem take_yes (Ba Bb g off L cap p : Nat) (c : Int) (w : World) (hp : p < L) (hL : L ≤ 9223372036854775807) (ha : w.cell? ⟨Ba, 0, none⟩ = some (.int .i64 p)) (hf : w.frozen? ⟨Ba, 0, none⟩ = false)
    (hb : w.cell? ⟨Bb, 0, none⟩ = some (.slice (some ⟨g, off, none⟩) L cap)) (hc : w.cell? ⟨g, off + p, none⟩ = some (.int .u8 c)) :
    Calls Try.prog 76 #[.pointer (some ⟨Ba, 0, none⟩), .pointer (some ⟨Bb, 0, none⟩)] w fun e w' => e = .returned (.tuple #[.int .u8 c, .bool true]) ∧ w' = w.setCell ⟨Ba, 0, none⟩ (.int .i64 ((p + 1 : Nat) : Int)) := by
  have hp' : (p : Int) < (L : Int) := by omega
  go_enter Try.func76, Try.ntmps76
  go_wp2
  go_ret2
  exact ⟨rfl, rfl⟩
set_option maxRecDepth 100000 in
set_option maxHeartbeats 400000 in
theorem take_no (Ba Bb L cap p : Nat) (ad : Option Addr) (w : World) (hp : L ≤ p) (ha : w.cell? ⟨Ba, 0, none⟩ = some (.int .i64 p))
    (hb : w.cell? ⟨Bb, 0, none⟩ = some (.slice ad L cap)) :
    Calls Try.prog 76 #[.pointer (some ⟨Ba, 0, none⟩), .pointer (some ⟨Bb, 0, none⟩)] w fun e w' => e = .returned (.tuple #[.int .u8 0, .bool false]) ∧ w' = w := by
  have hp' : (L : Int) ≤ (p : Int) := by omega
  go_enter Try.func76, Try.ntmps76
  go_wp2
  go_ret2
  exact ⟨rfl, rfl⟩
end Go.Proofs.Ytlajjkpcgokinaa
