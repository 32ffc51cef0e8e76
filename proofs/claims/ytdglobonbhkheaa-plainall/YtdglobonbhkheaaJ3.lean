/-
  The map of the bounds, and what is looked up in it.
-/
import Derived.Test.YtdglobonbhkheaaDm
import Derived.Carry
import Derived.Deep.Trees
namespace Go.Proofs.Ytdglobonbhkheaa
set_option linter.unusedVariables false
open Go.ChangeShapes Go.WideShapes Go.ChangeAt Go.RowKit Go.Deep

/-- the bounds of a kind, as the program holds them -/
def bv (k : Int) : Value := .agg #[.int .i64 (bo k 0), .int .i64 (bo k 1), .int .i64 (bo k 2), .int .i64 (bo k 3), .int .i64 (bo k 4), .int .i64 (bo k 5)]
def kindsE : Array MapEntry :=
  #[⟨.int .i64 0, bv 0, 0⟩, ⟨.int .i64 1, bv 1, 1⟩, ⟨.int .i64 2, bv 2, 2⟩, ⟨.int .i64 4, bv 4, 3⟩, ⟨.int .i64 5, bv 5, 4⟩, ⟨.int .i64 6, bv 6, 5⟩, ⟨.int .i64 7, bv 7, 6⟩]

theorem kd_check (e : Bool) (n : Nat) (k : Int) (w : World) : (Instr.checkKey e (n + 1) 22 (.int .i64 k)).run Try.prog w = .ok () w := by
  unfold Instr.checkKey
  rw [Sem.run_bind, run_underlying Try.underlying22 w]
  rfl
theorem kd_find {es : Array MapEntry} {k : Int} {r : Option (Nat × Value)} (hf : Instr.findNow (.int .i64) (.int .i64 k) es.toList 0 = some r) (w : World) : (Instr.findKey 22 (.int .i64 k) es.toList).run Try.prog w = .ok r w := by
  unfold Instr.findKey
  rw [Sem.run_bind, run_underlying Try.underlying22 w]
  simp [hf]
theorem kd_look {w : World} {m : Nat} {es : Array MapEntry} {clock : Nat} (h : w.heap[m]? = some (.map es clock)) (k : Int) {i : Nat} {v : Value} (hf : Instr.findNow (.int .i64) (.int .i64 k) es.toList 0 = some (some (i, v))) :
    (Instr.lookup 81 (.map (some m)) (.int .i64 k) true).run Try.prog w = .ok (.tuple #[v, .bool true]) w := by
  have hc : ∀ e, (Instr.checkKey e 10000 22 (.int .i64 k)).run Try.prog w = .ok () w := fun e => kd_check e 9999 k w
  simp [Instr.lookup, run_underlying Try.underlying81, MapKept.run_getObj_map h, hc, kd_find hf, Result.andThen]
theorem kd_look_no {w : World} {m : Nat} {es : Array MapEntry} {clock : Nat} (h : w.heap[m]? = some (.map es clock)) (k : Int) (hf : Instr.findNow (.int .i64) (.int .i64 k) es.toList 0 = some none) :
    (Instr.lookup 81 (.map (some m)) (.int .i64 k) true).run Try.prog w = .ok (.tuple #[.agg #[.int .i64 0, .int .i64 0, .int .i64 0, .int .i64 0, .int .i64 0, .int .i64 0], .bool false]) w := by
  have hc : ∀ e, (Instr.checkKey e 10000 22 (.int .i64 k)).run Try.prog w = .ok () w := fun e => kd_check e 9999 k w
  have hz : (zeroValue 79).run Try.prog w = .ok (.agg #[.int .i64 0, .int .i64 0, .int .i64 0, .int .i64 0, .int .i64 0, .int .i64 0]) w := by
    have hi : (Try.prog.info? 79).map (·.zero) = some (some (.agg #[.int .i64 0, .int .i64 0, .int .i64 0, .int .i64 0, .int .i64 0, .int .i64 0])) := by kernel_rfl
    cases hq : Try.prog.info? 79 with
    | none => simp [hq] at hi
    | some i =>
      have hz : i.zero = some (.agg #[.int .i64 0, .int .i64 0, .int .i64 0, .int .i64 0, .int .i64 0, .int .i64 0]) := by simpa [hq] using hi
      simp [zeroValue, typeInfo, hq, hz]
  simp [Instr.lookup, run_underlying Try.underlying81, MapKept.run_getObj_map h, hc, kd_find hf, hz, Result.andThen]
theorem kd_put {w : World} {m : Nat} {es : Array MapEntry} {clock : Nat} (h : w.heap[m]? = some (.map es clock)) (k : Int) (v : Value) (hf : Instr.findNow (.int .i64) (.int .i64 k) es.toList 0 = some none) :
    (Instr.mapUpdate 81 (.map (some m)) (.int .i64 k) v).run Try.prog w = .ok () { w with heap := w.heap.setIfInBounds m (.map (es.push { key := .int .i64 k, val := v, born := clock }) (clock + 1)) } := by
  have hc : ∀ e, (Instr.checkKey e 10000 22 (.int .i64 k)).run Try.prog w = .ok () w := fun e => kd_check e 9999 k w
  simp [Instr.mapUpdate, run_underlying Try.underlying81, MapKept.run_getObj_map h, hc, kd_find hf, MapKept.run_setObj_map _ h, Result.andThen]
theorem kd_insert {w : World} {ops : Array Oper} {rest : List Oper} {o : Oper} {a : Act} {Q : Exit → Act → World → Prop} (hg : o.guard = none) (mo ko vo : Operand) (hop : o.op = Op.insert 81 mo ko vo)
    (m : Nat) (k : Int) (v : Value) (es : Array MapEntry) (clock : Nat) (hm : a.eval mo = .map (some m)) (hk : a.eval ko = .int .i64 k) (hv : a.eval vo = v) (hh : w.heap[m]? = some (.map es clock)) (hf : Instr.findNow (.int .i64) (.int .i64 k) es.toList 0 = some none)
    (hK : ∀ w', w'.heap[m]? = some (.map (es.push { key := .int .i64 k, val := v, born := clock }) (clock + 1)) → Below m w w' → wpList Try.prog ops Q rest (a.put o.dst undef) w') : wpList Try.prog ops Q (o :: rest) a w := by
  refine wpList_plain hg fun K' hK' => ?_
  have hrun := kd_put hh k v hf
  unfold Oper.wp
  simp [execOp, hop, hm, hk, hv, hrun, Result.andThen]
  refine hK' _ _ (hK _ ?_ ⟨rfl, rfl, rfl, by simp, fun i hi => ?_⟩)
  · have hlt : m < w.heap.size := by
      rcases Nat.lt_or_ge m w.heap.size with h1 | h1
      · exact h1
      · rw [Array.getElem?_eq_none h1] at hh; cases hh
    simp [hlt]
  · have : m ≠ i := by omega
    simp [this]

set_option maxRecDepth 100000 in
set_option maxHeartbeats 1500000 in
theorem kinds_any (w : World) : Calls Try.prog 31 #[] w fun e w' => e = .returned (.map (some w.heap.size)) ∧ w'.heap[w.heap.size]? = some (.map kindsE 7) ∧ Below w.heap.size w w' := by
  have hmm := @run_makeMap Try.prog
  have hm0 : (w.alloc (.map #[] 0)).heap[w.heap.size]? = some (.map #[] 0) := heap_new _ _
  have b0 : Below w.heap.size w (w.alloc (.map #[] 0)) := alloc_below _ _
  go_enter Try.func31, Try.ntmps31
  go_wp2_with (first | (refine kd_insert rfl (.tmp 1) (.const (.int .i64 0)) (.tmp 3) rfl w.heap.size 0 _ _ 0 rfl rfl rfl hm0 rfl ?_; intro W1 hm1 b1) | (refine kd_insert rfl (.tmp 1) (.const (.int .i64 1)) (.tmp 5) rfl w.heap.size 1 _ _ 1 rfl rfl rfl hm1 rfl ?_; intro W2 hm2 b2) | (refine kd_insert rfl (.tmp 1) (.const (.int .i64 2)) (.tmp 7) rfl w.heap.size 2 _ _ 2 rfl rfl rfl hm2 rfl ?_; intro W3 hm3 b3) | (refine kd_insert rfl (.tmp 1) (.const (.int .i64 4)) (.tmp 9) rfl w.heap.size 4 _ _ 3 rfl rfl rfl hm3 rfl ?_; intro W4 hm4 b4) | (refine kd_insert rfl (.tmp 1) (.const (.int .i64 5)) (.tmp 11) rfl w.heap.size 5 _ _ 4 rfl rfl rfl hm4 rfl ?_; intro W5 hm5 b5) | (refine kd_insert rfl (.tmp 1) (.const (.int .i64 6)) (.tmp 13) rfl w.heap.size 6 _ _ 5 rfl rfl rfl hm5 rfl ?_; intro W6 hm6 b6) | (refine kd_insert rfl (.tmp 1) (.const (.int .i64 7)) (.tmp 16) rfl w.heap.size 7 _ _ 6 rfl rfl rfl hm6 rfl ?_; intro W7 hm7 b7))
  go_ret
  exact ⟨rfl, hm7, b0.trans (b1.trans (b2.trans (b3.trans (b4.trans (b5.trans (b6.trans b7))))))⟩

/-- what is looked up: the bounds of the kind, and whether there is one -/
theorem kinds_look {w : World} {m : Nat} (h : w.heap[m]? = some (.map kindsE 7)) (k : Int) : (Instr.lookup 81 (.map (some m)) (.int .i64 k) true).run Try.prog w = .ok (.tuple #[bv k, .bool (kn k)]) w := by
  cases hk : kn k
  · obtain ⟨h0, h1, h2, h4, h5, h6, h7⟩ := kn_not hk
    have sn : ∀ j : Int, k ≠ j → Instr.sameNow (.int .i64) (.int .i64 k) (.int .i64 j) = some false := fun j hj => by simp [Instr.sameNow, hj]
    rw [kd_look_no h k (by simp only [kindsE, Instr.findNow, sn 0 h0, sn 1 h1, sn 2 h2, sn 4 h4, sn 5 h5, sn 6 h6, sn 7 h7])]
    simp [bv, bo, h0, h1, h2, h4, h5, h6, h7]
  · rcases kn_cases hk with rfl | rfl | rfl | rfl | rfl | rfl | rfl
    · exact kd_look h 0 rfl
    · exact kd_look h 1 rfl
    · exact kd_look h 2 rfl
    · exact kd_look h 4 rfl
    · exact kd_look h 5 rfl
    · exact kd_look h 6 rfl
    · exact kd_look h 7 rfl

set_option maxHeartbeats 1000000 in
theorem has_any (a b n : Int) (w : World) : Calls Try.prog 32 #[.agg #[.int .i64 a, .int .i64 b], .int .i64 n] w fun e w' => e = .returned (.bool (inB a b n)) ∧ Below w.heap.size w w' := by
  rw [inB_eq]
  by_cases h1 : a ≤ n <;> by_cases h2 : n ≤ b
  all_goals
    go_enter Try.func32, Try.ntmps32
    go_wp2
    go_ret
    exact ⟨by simp [h1, h2], alloc_below _ _⟩
set_option maxHeartbeats 1000000 in
theorem hold_any (a0 a1 a2 a3 a4 a5 k n : Int) (s : ByteArray) (w : World) : Calls Try.prog 52 #[.agg #[.int .i64 a0, .int .i64 a1, .int .i64 a2, .int .i64 a3, .int .i64 a4, .int .i64 a5], .agg #[.int .i64 k, .int .i64 n, .string s]] w fun e w' => e = .returned (.bool (inB a2 a3 n && inB a4 a5 (s.size : Int))) ∧ Below w.heap.size w w' := by
  obtain ⟨t, HT⟩ : ∃ t, Hid (inB a2 a3 n = t) := ⟨_, rfl⟩
  have H1 := fun W => has_any a2 a3 n W
  have H2 := fun W => has_any a4 a5 (s.size : Int) W
  rw [HT.out] at H1 ⊢
  obtain ⟨u, HU⟩ : ∃ t, Hid (inB a4 a5 (s.size : Int) = t) := ⟨_, rfl⟩
  rw [HU.out] at H2 ⊢
  have hb0 : Below w.heap.size w ((w.alloc (.cells #[.int .i64 a0, .int .i64 a1, .int .i64 a2, .int .i64 a3, .int .i64 a4, .int .i64 a5] 79)).alloc (.cells #[.int .i64 k, .int .i64 n, .string s] 48)) := (alloc_below _ _).alloc (by simp) _
  cases t
  · go_enter Try.func52, Try.ntmps52
    go_wp2_with fail
    refine (H1 _).mono ?_
    rintro e W1 ⟨rfl, hb1⟩
    go_wp2_with fail
    go_ret
    exact ⟨rfl, hb0.trans (hb1.mono (by simp; omega))⟩
  · go_enter Try.func52, Try.ntmps52
    go_wp2_with fail
    refine (H1 _).mono ?_
    rintro e W1 ⟨rfl, hb1⟩
    have c0 : W1.cell? ⟨w.heap.size, 4, none⟩ = some (.int .i64 a4) := cell_later hb1 (alloc2_cell' _ _ _ _ _ rfl)
    have c1 : W1.cell? ⟨w.heap.size, 5, none⟩ = some (.int .i64 a5) := cell_later hb1 (alloc2_cell' _ _ _ _ _ rfl)
    have c2 : W1.cell? ⟨w.heap.size + 1, 2, none⟩ = some (.string s) := cell_later hb1 (alloc2_cell _ _ _ _ _ rfl)
    go_wp2_with fail
    refine (H2 _).mono ?_
    rintro e W2 ⟨rfl, hb2⟩
    go_wp2_with fail
    go_ret
    have b1 := hb0.trans (hb1.mono (by simp; omega))
    exact ⟨rfl, b1.trans (hb2.mono b1.size)⟩
end Go.Proofs.Ytdglobonbhkheaa

/-
  What makes data.
-/
namespace Go.Proofs.Ytdglobonbhkheaa
set_option linter.unusedVariables false
set_option linter.unusedSimpArgs false
open Go.ChangeShapes Go.WideShapes Go.ChangeAt Go.RowKit Go.Deep

theorem wrap64_wf (x : Int) : (Lit.int .i64 (wrap64 x)).wf = true := by
  simp [wrap64, Lit.wf, IntKind.min, IntKind.max, IntKind.signed, IntKind.bits]; omega
theorem unwrap64 (x : Int) (h0 : 0 ≤ x) (h : x ≤ 18446744073709551615) : IntKind.u64.wrap (wrap64 x) = x := by
  simp [wrap64, IntKind.wrap, IntKind.signed, IntKind.bits]; omega
set_option maxHeartbeats 1000000 in
theorem bool_t  (w : World) : Calls Try.prog 57 #[.bool true] w fun e w' => e = .returned (.agg #[.int .i64 0, .int .i64 1, .string { data := #[] }]) ∧ Below w.heap.size w w' := by
  go_enter Try.func57, Try.ntmps57
  go_wp2_with fail
  exact bodyPost_ret (v := .agg #[.int .i64 0, .int .i64 1, .string { data := #[] }]) (by simp [results, Try.results57, go_sem, Try.underlying48]) rfl ⟨rfl, alloc_below _ _⟩
set_option maxHeartbeats 1000000 in
theorem bool_f  (w : World) : Calls Try.prog 57 #[.bool false] w fun e w' => e = .returned (.agg #[.int .i64 0, .int .i64 0, .string { data := #[] }]) ∧ Below w.heap.size w w' := by
  go_enter Try.func57, Try.ntmps57
  go_wp2_with fail
  exact bodyPost_ret (v := .agg #[.int .i64 0, .int .i64 0, .string { data := #[] }]) (by simp [results, Try.results57, go_sem, Try.underlying48]) rfl ⟨rfl, alloc_below _ _⟩
set_option maxHeartbeats 1000000 in
theorem int32_any (n : Int) (h : -2147483648 ≤ n) (h2 : n ≤ 2147483647) (w : World) : Calls Try.prog 69 #[.int .i32 n] w fun e w' => e = .returned (.agg #[.int .i64 1, .int .i64 n, .string { data := #[] }]) ∧ Below w.heap.size w w' := by
  go_enter Try.func69, Try.ntmps69
  go_wp2_with fail
  exact bodyPost_ret (v := .agg #[.int .i64 1, .int .i64 n, .string { data := #[] }]) (by simp [results, Try.results69, go_sem, Try.underlying48]) rfl ⟨rfl, alloc_below _ _⟩
set_option maxHeartbeats 1000000 in
theorem int64_any (n : Int) (w : World) : Calls Try.prog 70 #[.int .i64 n] w fun e w' => e = .returned (.agg #[.int .i64 2, .int .i64 n, .string { data := #[] }]) ∧ Below w.heap.size w w' := by
  go_enter Try.func70, Try.ntmps70
  go_wp2_with fail
  exact bodyPost_ret (v := .agg #[.int .i64 2, .int .i64 n, .string { data := #[] }]) (by simp [results, Try.results70, go_sem, Try.underlying48]) rfl ⟨rfl, alloc_below _ _⟩
set_option maxHeartbeats 1000000 in
theorem bytes_any (s : ByteArray) (w : World) : Calls Try.prog 75 #[.string s] w fun e w' => e = .returned (.agg #[.int .i64 6, .int .i64 0, .string s]) ∧ Below w.heap.size w w' := by
  go_enter Try.func75, Try.ntmps75
  go_wp2_with fail
  exact bodyPost_ret (v := .agg #[.int .i64 6, .int .i64 0, .string s]) (by simp [results, Try.results75, go_sem, Try.underlying48]) rfl ⟨rfl, alloc_below _ _⟩
set_option maxHeartbeats 1000000 in
theorem fixed_any (s : ByteArray) (w : World) : Calls Try.prog 79 #[.string s] w fun e w' => e = .returned (.agg #[.int .i64 7, .int .i64 0, .string s]) ∧ Below w.heap.size w w' := by
  go_enter Try.func79, Try.ntmps79
  go_wp2_with fail
  exact bodyPost_ret (v := .agg #[.int .i64 7, .int .i64 0, .string s]) (by simp [results, Try.results79, go_sem, Try.underlying48]) rfl ⟨rfl, alloc_below _ _⟩
end Go.Proofs.Ytdglobonbhkheaa
