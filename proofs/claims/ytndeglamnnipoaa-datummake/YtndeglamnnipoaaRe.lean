/-
  order, real64, Real and Nan, and the reference's Real.
-/
import Derived.Test.YtndeglamnnipoaaOfA
import Derived.Test.YtndeglamnnipoaaCm
import Derived.Laws.Externs
import Derived.Laws.Cover1
import Derived.Laws.Cover2
namespace Go.Proofs.Ytndeglamnnipoaa
set_option linter.unusedVariables false
set_option linter.unusedSimpArgs false
open Go.ChangeShapes Go.WideShapes Go.ChangeAt Go.RowKit Go.Deep

theorem ret2 {a b c d : Value} (h1 : a = c) (h2 : b = d) : Ending.returned (.tuple #[a, b]) = .returned (.tuple #[c, d]) := by rw [h1, h2]
set_option maxHeartbeats 1000000 in
theorem order_s (a b : ByteArray) (w : World) : Calls Try.prog 38 #[.string a, .string b] w fun e w' => e = .returned (.tuple #[.int .i64 (lexC a.toList b.toList), .bool true]) ∧ w' = w := by
  have h1 := lexC_less a.toList b.toList
  have h2 := lexC_eq a.toList b.toList
  have h3 := lexC_three a.toList b.toList
  generalize lexC a.toList b.toList = c at *
  rcases h3 with rfl | rfl | rfl
  all_goals
    simp only [Int.reduceNeg, Int.reduceEq, decide_true, decide_false] at h1 h2
    go_enter Try.func38, Try.ntmps38
    go_wp2_with fail
    go_ret2
    exact ⟨rfl, rfl⟩
set_option maxHeartbeats 1000000 in
theorem order_i (a b : Int) (w : World) : Calls Try.prog 41 #[.int .i64 a, .int .i64 b] w fun e w' => e = .returned (.tuple #[.int .i64 (cI a b), .bool true]) ∧ w' = w := by
  by_cases h1 : a < b
  · have e : cI a b = -1 := by unfold cI; rw [if_pos h1]
    rw [e]
    go_enter Try.func41, Try.ntmps41
    go_wp2_with fail
    go_ret2
    exact ⟨rfl, rfl⟩
  · by_cases h2 : b < a
    · have e : cI a b = 1 := by unfold cI; rw [if_neg h1, if_pos h2]
      rw [e]
      go_enter Try.func41, Try.ntmps41
      go_wp2_with fail
      go_ret2
      exact ⟨rfl, rfl⟩
    · have h3 : a = b := by omega
      subst h3
      rw [cI_self]
      go_enter Try.func41, Try.ntmps41
      go_wp2_with fail
      go_ret2
      exact ⟨by simp, rfl⟩
set_option maxHeartbeats 1000000 in
theorem order_f (a b : Nat) (o : Option Ordering) (ho : Ieee.double.order a b = o) (w : World) : Calls Try.prog 39 #[.float .f64 a, .float .f64 b] w fun e w' => e = .returned (.tuple #[.int .i64 (oN o), .bool o.isSome]) ∧ w' = w := by
  have ho' : FloatKind.f64.format.order a b = o := ho
  clear ho
  rcases o with _ | o
  case none =>
    go_enter Try.func39, Try.ntmps39
    go_wp2_with fail
    go_ret2
    exact ⟨rfl, rfl⟩
  cases o
  all_goals
    go_enter Try.func39, Try.ntmps39
    go_wp2_with fail
    go_ret2
    exact ⟨rfl, rfl⟩
theorem ext32 (n : Int) (w : World) : (callFunc 30 #[.int .u32 n]).run Try.prog w = .ok (.value (.float .f32 n.toNat)) w :=
  run_callFunc_extern Try.func30 (by kernel_rfl) (by kernel_rfl) (by kernel_rfl) (e := Extern.MathFloatBits.float32frombits) (by kernel_rfl) _ w
theorem ext64 (n : Int) (w : World) : (callFunc 28 #[.int .u64 n]).run Try.prog w = .ok (.value (.float .f64 n.toNat)) w :=
  run_callFunc_extern Try.func28 (by kernel_rfl) (by kernel_rfl) (by kernel_rfl) (e := Extern.MathFloatBits.float64frombits) (by kernel_rfl) _ w
/-- the word of 64 bits that the model answers for one of 32 that is no number -/
def nanAt (w : World) (x : Nat) : Nat := (Question.nanConv .f64 x).cut (w.tape w.drawn (.nanConv .f64 x))
theorem nanAt_nan (w : World) (x : Nat) : nan64 (nanAt w x) = true := nan_word _
theorem conv_nan (x : Nat) (h : nan32 x = true) (w : World) : Sem.run Try.prog (convert 49 38 (.float .f32 x)) w = .ok (.float .f64 (nanAt w x)) w.drew := by
  have e : (Conv.floatToFloat .f32 x .f64).run Try.prog w = .ok (.float .f64 (nanAt w x)) w.drew := by
    unfold nan32 at h
    have h' : (FloatKind.f32.decode x).isNaN = true := h
    unfold Conv.floatToFloat
    rw [if_neg (by decide)]
    cases hd : FloatKind.f32.decode x with
    | number s m i => rw [hd] at h'; simp [Ieee.Datum.isNaN] at h'
    | infinity s => rw [hd] at h'; simp [Ieee.Datum.isNaN] at h'
    | nan s t => rfl
  simp [convert, go_sem, Try.underlying49, Try.underlying38, e]
theorem conv_num (x : Nat) (h : nan32 x = false) (w : World) : Sem.run Try.prog (convert 49 38 (.float .f32 x)) w = .ok (.float .f64 (cv x)) w := by
  have e : (Conv.floatToFloat .f32 x .f64).run Try.prog w = .ok (.float .f64 (cv x)) w := by
    unfold nan32 at h
    have h' : (FloatKind.f32.decode x).isNaN = false := h
    unfold Conv.floatToFloat
    rw [if_neg (by decide)]
    cases hd : FloatKind.f32.decode x with
    | nan s t => rw [hd] at h'; simp [Ieee.Datum.isNaN] at h'
    | infinity s =>
      have : cv x = FloatKind.f64.encode (.infinity s) := by
        show Ieee.double.write (Ieee.single.read x) = _
        have : Ieee.single.read x = .infinity s := hd
        rw [this]; rfl
      rw [this]; rfl
    | number s m i =>
      have hd' : Ieee.single.read x = .number s m i := hd
      have hc : cv x = FloatKind.f64.encode (.number s m i) := by
        show Ieee.double.write (Ieee.single.read x) = _
        rw [hd']; rfl
      obtain ⟨m', i', e⟩ := cv_number hd'
      have e' : FloatKind.f64.decode (cv x) = .number s m' i' := e
      dsimp only
      rw [← hc, e']
      rfl
  simp [convert, go_sem, Try.underlying49, Try.underlying38, e]
set_option maxRecDepth 100000 in
set_option maxHeartbeats 2000000 in
theorem real64_any (k n : Int) (s : ByteArray) (w : World) : Calls Try.prog 40 #[.agg #[.int .i64 k, .int .i64 n, .string s]] w fun e w' => ∃ r, e = .returned (.float .f64 r) ∧ isR k n r ∧ Below w.heap.size w w' := by
  have hx : (w.alloc (.cells #[.int .i64 k, .int .i64 n, .string s] 29)).heap[w.heap.size]? = some (.cells #[.int .i64 k, .int .i64 n, .string s] 29 (0, 0)) := heap_new _ _
  have hb : Below w.heap.size w (w.alloc (.cells #[.int .i64 k, .int .i64 n, .string s] 29)) := alloc_below _ _
  obtain ⟨⟨c0, c1, c2⟩, _⟩ := blk3 hx
  by_cases hk : k = 4
  · subst hk
    have X := fun W => ext32 (n % 4294967296) W
    cases hn : nan32 (w32 n)
    · have Y := fun W => conv_num (w32 n) hn W
      have hr : isR 4 n (cv (w32 n)) := by unfold isR; rw [if_pos rfl, if_neg (by simp [hn])]
      unfold w32 at *
      go_enter Try.func40, Try.ntmps40
      go_wp2_with fail
      go_ret
      exact ⟨_, rfl, hr, hb⟩
    · have Y := fun W => conv_nan (w32 n) hn W
      have hr : ∀ W, isR 4 n (nanAt W (w32 n)) := fun W => by unfold isR; rw [if_pos rfl, if_pos hn]; exact nanAt_nan _ _
      unfold w32 at *
      go_enter Try.func40, Try.ntmps40
      go_wp2_with fail
      go_ret
      exact ⟨_, rfl, hr _, hb.drew⟩
  · have hk' : (k == 4) = false := by simpa using hk
    have X := fun W => ext64 (IntKind.u64.wrap n) W
    have hr : isR k n (w64 n) := by unfold isR; rw [if_neg hk]
    unfold w64 at *
    go_enter Try.func40, Try.ntmps40
    go_wp2_with fail
    go_ret
    exact ⟨_, rfl, hr, hb⟩
end Go.Proofs.Ytndeglamnnipoaa
