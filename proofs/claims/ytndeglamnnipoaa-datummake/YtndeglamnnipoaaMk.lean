/-
  What makes data.
-/
import Derived.Test.YtndeglamnnipoaaRe
namespace Go.Proofs.Ytndeglamnnipoaa
set_option linter.unusedVariables false
set_option linter.unusedSimpArgs false
open Go.ChangeShapes Go.WideShapes Go.ChangeAt Go.RowKit Go.Deep

theorem ext64b (x : Nat) (w : World) : (callFunc 23 #[.float .f64 x]).run Try.prog w = .ok (.value (.int .u64 x)) w :=
  run_callFunc_extern Try.func23 (by kernel_rfl) (by kernel_rfl) (by kernel_rfl) (e := Extern.MathFloatBits.float64bits) (by kernel_rfl) _ w
theorem ext32b (x : Nat) (w : World) : (callFunc 44 #[.float .f32 x]).run Try.prog w = .ok (.value (.int .u32 x)) w :=
  run_callFunc_extern Try.func44 (by kernel_rfl) (by kernel_rfl) (by kernel_rfl) (e := Extern.MathFloatBits.float32bits) (by kernel_rfl) _ w
theorem wrap64_wf (x : Int) : (Lit.int .i64 (wrap64 x)).wf = true := by
  simp [wrap64, Lit.wf, IntKind.min, IntKind.max, IntKind.signed, IntKind.bits]; omega
theorem unwrap64 (x : Int) (h0 : 0 ≤ x) (h : x ≤ 18446744073709551615) : IntKind.u64.wrap (wrap64 x) = x := by
  simp [wrap64, IntKind.wrap, IntKind.signed, IntKind.bits]; omega
set_option maxHeartbeats 1000000 in
theorem bool_t  (w : World) : Calls Try.prog 24 #[.bool true] w fun e w' => e = .returned (.agg #[.int .i64 0, .int .i64 1, .string { data := #[] }]) ∧ Below w.heap.size w w' := by
  go_enter Try.func24, Try.ntmps24
  go_wp2_with fail
  exact bodyPost_ret (v := .agg #[.int .i64 0, .int .i64 1, .string { data := #[] }]) (by simp [results, Try.results24, go_sem, Try.underlying29]) rfl ⟨rfl, alloc_below _ _⟩
set_option maxHeartbeats 1000000 in
theorem bool_f  (w : World) : Calls Try.prog 24 #[.bool false] w fun e w' => e = .returned (.agg #[.int .i64 0, .int .i64 0, .string { data := #[] }]) ∧ Below w.heap.size w w' := by
  go_enter Try.func24, Try.ntmps24
  go_wp2_with fail
  exact bodyPost_ret (v := .agg #[.int .i64 0, .int .i64 0, .string { data := #[] }]) (by simp [results, Try.results24, go_sem, Try.underlying29]) rfl ⟨rfl, alloc_below _ _⟩
set_option maxHeartbeats 1000000 in
theorem int32_any (n : Int) (h : -2147483648 ≤ n) (h2 : n ≤ 2147483647) (w : World) : Calls Try.prog 25 #[.int .i32 n] w fun e w' => e = .returned (.agg #[.int .i64 1, .int .i64 n, .string { data := #[] }]) ∧ Below w.heap.size w w' := by
  go_enter Try.func25, Try.ntmps25
  go_wp2_with fail
  exact bodyPost_ret (v := .agg #[.int .i64 1, .int .i64 n, .string { data := #[] }]) (by simp [results, Try.results25, go_sem, Try.underlying29]) rfl ⟨rfl, alloc_below _ _⟩
set_option maxHeartbeats 1000000 in
theorem int64_any (n : Int) (w : World) : Calls Try.prog 26 #[.int .i64 n] w fun e w' => e = .returned (.agg #[.int .i64 2, .int .i64 n, .string { data := #[] }]) ∧ Below w.heap.size w w' := by
  go_enter Try.func26, Try.ntmps26
  go_wp2_with fail
  exact bodyPost_ret (v := .agg #[.int .i64 2, .int .i64 n, .string { data := #[] }]) (by simp [results, Try.results26, go_sem, Try.underlying29]) rfl ⟨rfl, alloc_below _ _⟩
set_option maxHeartbeats 1000000 in
theorem double_any (x : Nat) (w : World) : Calls Try.prog 27 #[.float .f64 x] w fun e w' => e = .returned (.agg #[.int .i64 5, .int .i64 (wrap64 (x : Int)), .string { data := #[] }]) ∧ Below w.heap.size w w' := by
  have X := fun W => ext64b x W
  go_enter Try.func27, Try.ntmps27
  go_wp2_with fail
  exact bodyPost_ret (v := .agg #[.int .i64 5, .int .i64 (wrap64 (x : Int)), .string { data := #[] }]) (by simp [results, Try.results27, go_sem, Try.underlying29]) rfl ⟨rfl, alloc_below _ _⟩
set_option maxHeartbeats 1000000 in
theorem float_any (x : Nat) (h : (x : Int) ≤ 4294967295) (w : World) : Calls Try.prog 29 #[.float .f32 x] w fun e w' => e = .returned (.agg #[.int .i64 4, .int .i64 (x : Int), .string { data := #[] }]) ∧ Below w.heap.size w w' := by
  have X := fun W => ext32b x W
  go_enter Try.func29, Try.ntmps29
  go_wp2_with fail
  exact bodyPost_ret (v := .agg #[.int .i64 4, .int .i64 (x : Int), .string { data := #[] }]) (by simp [results, Try.results29, go_sem, Try.underlying29]) rfl ⟨rfl, alloc_below _ _⟩
set_option maxHeartbeats 1000000 in
theorem bytes_any (s : ByteArray) (w : World) : Calls Try.prog 31 #[.string s] w fun e w' => e = .returned (.agg #[.int .i64 6, .int .i64 0, .string s]) ∧ Below w.heap.size w w' := by
  go_enter Try.func31, Try.ntmps31
  go_wp2_with fail
  exact bodyPost_ret (v := .agg #[.int .i64 6, .int .i64 0, .string s]) (by simp [results, Try.results31, go_sem, Try.underlying29]) rfl ⟨rfl, alloc_below _ _⟩
set_option maxHeartbeats 1000000 in
theorem fixed_any (s : ByteArray) (w : World) : Calls Try.prog 32 #[.string s] w fun e w' => e = .returned (.agg #[.int .i64 7, .int .i64 0, .string s]) ∧ Below w.heap.size w w' := by
  go_enter Try.func32, Try.ntmps32
  go_wp2_with fail
  exact bodyPost_ret (v := .agg #[.int .i64 7, .int .i64 0, .string s]) (by simp [results, Try.results32, go_sem, Try.underlying29]) rfl ⟨rfl, alloc_below _ _⟩
end Go.Proofs.Ytndeglamnnipoaa
