/-
  The law's heavy: it answers, and says no only of at most 200 data.
-/
import Derived.Test.YtfocmlajeflenaaDat
import Derived.Test.YtfocmlajeflenaaBox
namespace Go.Proofs.Ytfocmlajeflenaa
set_option linter.unusedVariables false
set_option linter.unusedSimpArgs false
open Go.ChangeShapes Go.WideShapes Go.ChangeAt Go.RowKit Go.Deep

/-- whether it is heavy: no only of at most 200 -/
def HeavyV (v : Value) (len : Nat) : Prop := ∃ hv : Bool, v = .bool hv ∧ (hv = false → len ≤ 200)

set_option maxRecDepth 100000 in
set_option maxHeartbeats 4000000 in
theorem heavy_any (k z : Int) (w : World) (a : Option Addr) (len cap : Nat) (l : List Dat) (h : Data w a len cap l) :
    Calls Try.prog 7 #[.agg #[.int .i64 k, .int .i64 z], .slice a len cap] w fun e w' => ∃ v, e = .returned v ∧ HeavyV v len ∧ Below w.heap.size w w' := by
  have hlen := h.2.2.1
  have ab := alloc_below w (.cells #[.int .i64 k, .int .i64 z] 24 (0, 0))
  have hx := heap_new w (.cells #[.int .i64 k, .int .i64 z] 24 (0, 0))
  go_enter Try.func7, Try.ntmps7
  go_wp2_with fail
  go_loopw [5, 6] (fun nv iv wr => ∃ (i : Nat) (n : Int), i ≤ len ∧ i ≤ 200 ∧ iv = .int .i64 (i : Int) ∧ nv = .int .i64 n ∧ wr = w.alloc (.cells #[.int .i64 k, .int .i64 z] 24 (0, 0))) (fun _ iv _ => len - (intOf iv).toNat)
  case atStart => exact ⟨0, 0, Nat.zero_le _, Nat.zero_le _, rfl, rfl, rfl⟩
  case round =>
    obtain ⟨i, n, hi, hi2, rfl, rfl, rfl⟩ := hrel
    by_cases hlt : i < len ∧ i < 200
    · have hlt' : (i : Int) < (len : Int) := by omega
      have hlt2 : (i : Int) < 200 := by omega
      obtain ⟨d, g, o, hd, wd, rfl, hg, y0, y1, y2⟩ := data_at (h.later ab) hlt.1
      clear hd wd hlt
      go_wp2_with fail
      go_roundw
      case rel => exact ⟨i + 1, _, by omega, by omega, by go_num, rfl, trivial⟩
      case measure => simp [intOf]; omega
    · clear hx
      by_cases hlt1 : i < len
      · have l1 : (i : Int) < (len : Int) := by omega
        have l2 : ¬ (i : Int) < 200 := by omega
        clear hlt
        by_cases a1 : (200 : Int) < (len : Int)
        · go_wp2_with fail
          go_ret
          exact ⟨_, rfl, ⟨true, rfl, fun h => by cases h⟩, ab⟩
        have HL : Hid (len ≤ 200) := by show _ ≤ _; omega
        have d1 : decide ((200 : Int) < (len : Int)) = false := by simp; omega
        clear a1
        cases d2 : decide (2000 < n)
        case true =>
          go_wp2_with fail
          go_ret
          exact ⟨_, rfl, ⟨_, rfl, fun _ => HL.out⟩, ab⟩
        cases d3 : decide (2000 < z)
        case false =>
          go_wp2_with fail
          go_ret
          exact ⟨_, rfl, ⟨_, rfl, fun _ => HL.out⟩, ab⟩
        cases d4 : decide (z ≤ 1048576)
        all_goals
          go_wp2_with fail
          go_ret
          exact ⟨_, rfl, ⟨_, rfl, fun _ => HL.out⟩, ab⟩
      · have l1 : ¬ (i : Int) < (len : Int) := by omega
        clear hlt
        by_cases a1 : (200 : Int) < (len : Int)
        · go_wp2_with fail
          go_ret
          exact ⟨_, rfl, ⟨true, rfl, fun h => by cases h⟩, ab⟩
        have HL : Hid (len ≤ 200) := by show _ ≤ _; omega
        have d1 : decide ((200 : Int) < (len : Int)) = false := by simp; omega
        clear a1
        cases d2 : decide (2000 < n)
        case true =>
          go_wp2_with fail
          go_ret
          exact ⟨_, rfl, ⟨_, rfl, fun _ => HL.out⟩, ab⟩
        cases d3 : decide (2000 < z)
        case false =>
          go_wp2_with fail
          go_ret
          exact ⟨_, rfl, ⟨_, rfl, fun _ => HL.out⟩, ab⟩
        cases d4 : decide (z ≤ 1048576)
        all_goals
          go_wp2_with fail
          go_ret
          exact ⟨_, rfl, ⟨_, rfl, fun _ => HL.out⟩, ab⟩
end Go.Proofs.Ytfocmlajeflenaa
