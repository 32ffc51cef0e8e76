/-
  The parts: a number is read.
-/
import Derived.Test.YtfocmlajeflenaaPlN
import Derived.Test.YtfocmlajeflenaaBox
import Derived.Deep.RegionHeld3
namespace Go.Proofs.Ytfocmlajeflenaa
set_option linter.unusedVariables false
set_option linter.unusedSimpArgs false
open Go.ChangeShapes Go.WideShapes Go.ChangeAt Go.RowKit Go.Deep

/-- a datum's cells were stored into a box: what is handed back -/
theorem box_dat {W : World} {b : Nat} {x0 x1 x2 : Value} (h : W.heap[b]? = some (.cells #[x0, x1, x2] 48 (0, 0))) (d : Dat) : ∃ X, ((W.setCell ⟨b, 0, none⟩ (.int .i64 d.k)).setCell ⟨b, 1, none⟩ (.int .i64 d.n)).setCell ⟨b, 2, none⟩ (.string d.s) = X ∧ X.cell? ⟨b, 0, none⟩ = some (.int .i64 d.k) ∧ X.cell? ⟨b, 1, none⟩ = some (.int .i64 d.n) ∧ X.cell? ⟨b, 2, none⟩ = some (.string d.s) ∧ Below b W X := by
  obtain ⟨s1, s2⟩ := store3 h (.int .i64 d.k) (.int .i64 d.n) (.string d.s)
  obtain ⟨⟨c0, c1, c2⟩, _⟩ := blk3 s1
  exact ⟨_, rfl, c0, c1, c2, (((Below.refl b W).setCell (p := ⟨b, 0, none⟩) (Nat.le_refl _) _).setCell (p := ⟨b, 1, none⟩) (Nat.le_refl _) _).setCell (p := ⟨b, 2, none⟩) (Nat.le_refl _) _⟩
theorem w32_eq (x : Int) (h0 : 0 ≤ x) (h : x < 4294967296) : wrap32 x = if 2147483647 < x then x - 4294967296 else x := by
  unfold wrap32
  split <;> omega
theorem p32 {x : Nat} (h : x < 2 ^ (8 * 4)) : (x : Int) < 4294967296 := by
  have e : (2 : Nat) ^ (8 * 4) = 4294967296 := by decide
  rw [e] at h
  omega
theorem p64 {x : Nat} (h : x < 2 ^ (8 * 8)) : (x : Int) < 18446744073709551616 := by
  have e : (2 : Nat) ^ (8 * 8) = 18446744073709551616 := by decide
  rw [e] at h
  omega
theorem mkN_1 (x : Nat) (h : x < 2 ^ (8 * 4)) : (mkN 1 x).n = wrap32 (x : Int) := by
  rw [w32_eq (x : Int) (Int.natCast_nonneg x) (p32 h)]
  simp only [mkN, if_true]
theorem mkN_o (k : Int) (x : Nat) (h : k ≠ 1) : (mkN k x).n = wrap64 (x : Int) := by
  simp only [mkN, if_neg h]
theorem mkN_4 (x : Nat) (h : x < 2 ^ (8 * 4)) : (mkN 4 x).n = (x : Int) := by
  rw [mkN_o 4 x (by decide)]
  have := p32 h
  unfold wrap64
  omega
theorem mkN_v (k : Int) (x : Nat) (n : Int) (h : (mkN k x).n = n) : dval (mkN k x) = .agg #[.int .i64 k, .int .i64 n, .string { data := #[] }] := by rw [← h]; rfl
set_option maxRecDepth 100000 in
set_option maxHeartbeats 1000000 in
theorem of_1 (x : Nat) (h : x < 2 ^ (8 * 4)) (w : World) : Calls Try.prog 46 #[.int .u64 x] w fun e w' => e = .returned (dval (mkN 1 x)) ∧ Below w.heap.size w w' := by
  have hb : -2147483648 ≤ wrap32 (x : Int) ∧ wrap32 (x : Int) ≤ 2147483647 := by unfold wrap32; omega
  rw [mkN_v 1 x (wrap32 (x : Int)) (mkN_1 x h)]
  have r := int32_any (wrap32 (x : Int)) hb.1 hb.2 (w.alloc (.cells #[.int .i64 0, .int .i64 0, .string { data := #[] }] 48 (0, 0)))
  have ab := alloc_below w (.cells #[.int .i64 0, .int .i64 0, .string { data := #[] }] 48 (0, 0))
  clear h hb
  generalize HY : wrap32 (x : Int) = y at *
  go_enter Try.func46, Try.ntmps46
  go_wp2_with fail
  rw [HY]
  refine r.mono ?_
  rintro e W1 ⟨rfl, hb1⟩
  have hx1 := below_at hb1 (heap_new w (.cells #[.int .i64 0, .int .i64 0, .string { data := #[] }] 48 (0, 0)))
  obtain ⟨_, f0, f1, f2⟩ := blk3 hx1
  obtain ⟨X, HX, c0, c1, c2, hbX⟩ := box_dat hx1 ⟨1, y, { data := #[] }⟩
  have hb3 := ab.trans ((hb1.mono ab.size).trans hbX)
  clear hb1 hbX hx1 ab
  go_wp2_with fail
  try rw [HX]
  exact bodyPost_ret (v := .agg #[.int .i64 1, .int .i64 y, .string { data := #[] }]) (by simp [results, Try.results46, go_sem, Try.underlying48, c0, c1, c2]) rfl ⟨rfl, hb3⟩
set_option maxRecDepth 100000 in
set_option maxHeartbeats 1000000 in
theorem of_2 (x : Nat) (h : x < 2 ^ (8 * 8)) (w : World) : Calls Try.prog 47 #[.int .u64 x] w fun e w' => e = .returned (dval (mkN 2 x)) ∧ Below w.heap.size w w' := by
  rw [mkN_v 2 x (wrap64 (x : Int)) (mkN_o _ x (by decide))]
  have r := int64_any (wrap64 (x : Int)) (w.alloc (.cells #[.int .i64 0, .int .i64 0, .string { data := #[] }] 48 (0, 0)))
  have ab := alloc_below w (.cells #[.int .i64 0, .int .i64 0, .string { data := #[] }] 48 (0, 0))
  clear h
  generalize HY : wrap64 (x : Int) = y at *
  go_enter Try.func47, Try.ntmps47
  go_wp2_with fail
  rw [HY]
  refine r.mono ?_
  rintro e W1 ⟨rfl, hb1⟩
  have hx1 := below_at hb1 (heap_new w (.cells #[.int .i64 0, .int .i64 0, .string { data := #[] }] 48 (0, 0)))
  obtain ⟨_, f0, f1, f2⟩ := blk3 hx1
  obtain ⟨X, HX, c0, c1, c2, hbX⟩ := box_dat hx1 ⟨2, y, { data := #[] }⟩
  have hb3 := ab.trans ((hb1.mono ab.size).trans hbX)
  clear hb1 hbX hx1 ab
  go_wp2_with fail
  try rw [HX]
  exact bodyPost_ret (v := .agg #[.int .i64 2, .int .i64 y, .string { data := #[] }]) (by simp [results, Try.results47, go_sem, Try.underlying48, c0, c1, c2]) rfl ⟨rfl, hb3⟩
set_option maxRecDepth 100000 in
set_option maxHeartbeats 1000000 in
theorem of_4 (x : Nat) (h : x < 2 ^ (8 * 4)) (w : World) : Calls Try.prog 48 #[.int .u64 x] w fun e w' => e = .returned (dval (mkN 4 x)) ∧ Below w.heap.size w w' := by
  rw [mkN_v 4 x (wrap64 (x : Int)) (mkN_o _ x (by decide))]
  have ab := alloc_below w (.cells #[.int .i64 0, .int .i64 0, .string { data := #[] }] 48 (0, 0))
  clear h
  go_enter Try.func48, Try.ntmps48
  go_wp2_with fail
  exact bodyPost_ret (v := .agg #[.int .i64 4, .int .i64 (wrap64 (x : Int)), .string { data := #[] }]) (by simp [results, Try.results48, go_sem, Try.underlying48]) rfl ⟨rfl, alloc_below _ _⟩
set_option maxRecDepth 100000 in
set_option maxHeartbeats 1000000 in
theorem of_5 (x : Nat) (h : x < 2 ^ (8 * 8)) (w : World) : Calls Try.prog 49 #[.int .u64 x] w fun e w' => e = .returned (dval (mkN 5 x)) ∧ Below w.heap.size w w' := by
  rw [mkN_v 5 x (wrap64 (x : Int)) (mkN_o _ x (by decide))]
  have ab := alloc_below w (.cells #[.int .i64 0, .int .i64 0, .string { data := #[] }] 48 (0, 0))
  clear h
  go_enter Try.func49, Try.ntmps49
  go_wp2_with fail
  exact bodyPost_ret (v := .agg #[.int .i64 5, .int .i64 (wrap64 (x : Int)), .string { data := #[] }]) (by simp [results, Try.results49, go_sem, Try.underlying48]) rfl ⟨rfl, alloc_below _ _⟩
end Go.Proofs.Ytfocmlajeflenaa
