/-
  The reference's hex.
-/
import Derived.Test.YtndeglamnnipoaaDoorHxM
import Derived.Lib.QuietBelow
namespace Go.Proofs.YtndeglamnnipoaaDoor
set_option linter.unusedVariables false
set_option linter.unusedSimpArgs false
open Go.ChangeShapes Go.WideShapes Go.ChangeAt Go.RowKit Go.Sort

theorem digs (q : Nat) (h : q < ({ data := #[48, 49, 50, 51, 52, 53, 54, 55, 56, 57, 97, 98, 99, 100, 101, 102] } : ByteArray).size) :
    ({ data := #[48, 49, 50, 51, 52, 53, 54, 55, 56, 57, 97, 98, 99, 100, 101, 102] } : ByteArray)[q].toNat = dg q := by
  have h' : q < 16 := h
  have : q = 0 ∨ q = 1 ∨ q = 2 ∨ q = 3 ∨ q = 4 ∨ q = 5 ∨ q = 6 ∨ q = 7 ∨ q = 8 ∨ q = 9 ∨ q = 10 ∨ q = 11 ∨ q = 12 ∨ q = 13 ∨ q = 14 ∨ q = 15 := by omega
  rcases this with rfl | rfl | rfl | rfl | rfl | rfl | rfl | rfl | rfl | rfl | rfl | rfl | rfl | rfl | rfl | rfl <;> rfl
/-- a digit as a text -/
theorem run_chr (q : Nat) (h : q < 16) (w : World) : Sem.run Tryd.prog (convert 5 9 (.int .u8 (dg q : Nat))) w = .ok (.string (tx [dg q])) w := by
  have : q = 0 ∨ q = 1 ∨ q = 2 ∨ q = 3 ∨ q = 4 ∨ q = 5 ∨ q = 6 ∨ q = 7 ∨ q = 8 ∨ q = 9 ∨ q = 10 ∨ q = 11 ∨ q = 12 ∨ q = 13 ∨ q = 14 ∨ q = 15 := by omega
  rcases this with rfl | rfl | rfl | rfl | rfl | rfl | rfl | rfl | rfl | rfl | rfl | rfl | rfl | rfl | rfl | rfl <;> rfl
theorem tx_size (l : List Nat) : (tx l).size = l.length := by
  unfold tx
  rw [strOfNums_size]; simp
theorem tx_add (l m : List Nat) : tx l ++ tx m = tx (l ++ m) := by
  apply ByteArray.ext
  apply Array.toList_inj.1
  rw [ByteArray.data_append, Array.toList_append, tx_data, tx_data, tx_data, List.map_append]
/-- one text behind another -/
theorem run_addT (l m : List Nat) (h : l.length + m.length ≤ 1000000) (w : World) : Sem.run Tryd.prog (binOp .add 9 (.string (tx l)) (.string (tx m))) w = .ok (.string (tx (l ++ m))) w := by
  have h' : ¬ ((((tx l).size + (tx m).size : Nat) : Int) > IntKind.i64.max) := by
    rw [tx_size, tx_size]
    have : IntKind.i64.max = 9223372036854775807 := rfl
    rw [this]
    omega
  simp only [binOp, Op.stringOp]
  rw [if_neg h', tx_add]
  rfl
set_option maxRecDepth 100000 in
set_option maxHeartbeats 2000000 in
theorem rhex_any (N : Int) (n c : Nat) (hN : N = (n : Int)) (hn : N ≤ 18446744073709551615) (hc : c ≤ 16) (w : World) : Calls Tryd.prog 12 #[.int .u64 N, .int .i64 c] w fun e w' => e = .returned (.string (tx (hx c n))) ∧ w' = w := by
  have hc' : (c : Int) ≤ 16 := by omega
  have hn0 : 0 ≤ N := by omega
  have e0 : (tx []) = { data := #[] } := by apply ByteArray.ext; rfl
  have HE : Hid (tx [] = { data := #[] }) := e0
  have HN : Hid (N = (n : Int)) := hN
  clear e0 hN
  go_enter Tryd.func12, Tryd.ntmps12
  go_wp2_with fail
  go_loop [0, 5, 6] (fun nv ov iv => ∃ (j m : Nat) (M : Int), j ≤ c ∧ iv = .int .i64 (j : Int) ∧ nv = .int .u64 M ∧ 0 ≤ M ∧ M ≤ N ∧ Hid (M = (m : Int) ∧ m = n / 16 ^ j) ∧ ov = .string (tx (hx j n))) (fun _ _ iv => c - (intOf iv).toNat)
  case atStart => exact ⟨0, n, N, by omega, rfl, rfl, hn0, Int.le_refl _, ⟨HN.out, by simp⟩, by show _ = Value.string (tx []); rw [HE.out]⟩
  case round =>
    obtain ⟨j, m, M, hj, rfl, rfl, hM0, hM, H, rfl⟩ := hrel
    by_cases hlt : j < c
    · have hlt' : (j : Int) < (c : Int) := by omega
      obtain ⟨q, hq⟩ : ∃ q : Nat, q = m % 16 := ⟨_, rfl⟩
      have hq16 : q < 16 := by omega
      have hq' : (q : Int) < 16 := by omega
      have a1 : M % 16 = (q : Int) := by have := H.out.1; omega
      have HQ : Hid (q = n / 16 ^ j % 16) := by show _ = _; rw [hq, H.out.2]
      have HM : Hid (M / 16 = ((m / 16 : Nat) : Int) ∧ m / 16 = n / 16 ^ (j + 1)) := ⟨by have := H.out.1; omega, by rw [H.out.2, Nat.pow_succ, Nat.div_div_eq_div_mul]⟩
      have HL : Hid (0 ≤ M / 16 ∧ M / 16 ≤ N) := ⟨by omega, by omega⟩
      have HD := digs q (by show q < 16; omega)
      have R1 := fun W => run_chr q hq16 W
      have R2 : ¬ 9223372036854775807 < (tx [dg q]).size + (tx (hx j n)).size := by rw [tx_size, tx_size, hx_len]; simp; omega
      clear hq
      go_wp2_with fail
      refine ⟨⟨j + 1, m / 16, M / 16, by omega, by simp, rfl, HL.out.1, HL.out.2, HM.out, ?_⟩, by simp [intOf]; omega⟩
      rw [tx_add, hx_cons, ← HQ.out]; rfl
    · have hlt' : ¬ (j : Int) < (c : Int) := by omega
      have HJ : Hid (j = c) := by show _ = _; omega
      go_wp2_with fail
      go_ret
      exact ⟨by rw [← HJ.out]; rfl, rfl⟩
end Go.Proofs.YtndeglamnnipoaaDoor
