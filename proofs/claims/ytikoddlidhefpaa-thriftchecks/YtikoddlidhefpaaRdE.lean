/-
  The map of the ways.
-/
import Derived.Test.YtikoddlidhefpaaRdD
import Derived.Carry
namespace Go.Proofs.Ytikoddlidhefpaa
set_option linter.unusedVariables false
open Go.ChangeShapes Go.WideShapes Go.ChangeAt Go.RowKit Go.Deep

theorem run_check (e : Bool) (n : Nat) (k : Int) (w : World) : (Instr.checkKey e (n + 1) 22 (.int .i64 k)).run Try.prog w = .ok () w := by
  unfold Instr.checkKey
  rw [Sem.run_bind, run_underlying Try.underlying22 w]
  rfl
theorem run_find {es : Array MapEntry} {k : Int} {r : Option (Nat × Value)} (hf : Instr.findNow (.int .i64) (.int .i64 k) es.toList 0 = some r) (w : World) : (Instr.findKey 22 (.int .i64 k) es.toList).run Try.prog w = .ok r w := by
  unfold Instr.findKey
  rw [Sem.run_bind, run_underlying Try.underlying22 w]
  simp [hf]
theorem run_look {w : World} {m : Nat} {es : Array MapEntry} {clock : Nat} (h : w.heap[m]? = some (.map es clock)) (k : Int) {i : Nat} {v : Value} (hf : Instr.findNow (.int .i64) (.int .i64 k) es.toList 0 = some (some (i, v))) :
    (Instr.lookup 70 (.map (some m)) (.int .i64 k) true).run Try.prog w = .ok (.tuple #[v, .bool true]) w := by
  have hc : ∀ e, (Instr.checkKey e 10000 22 (.int .i64 k)).run Try.prog w = .ok () w := fun e => run_check e 9999 k w
  simp [Instr.lookup, run_underlying Try.underlying70, MapKept.run_getObj_map h, hc, run_find hf, Result.andThen]
theorem run_look_no {w : World} {m : Nat} {es : Array MapEntry} {clock : Nat} (h : w.heap[m]? = some (.map es clock)) (k : Int) (hf : Instr.findNow (.int .i64) (.int .i64 k) es.toList 0 = some none) :
    (Instr.lookup 70 (.map (some m)) (.int .i64 k) true).run Try.prog w = .ok (.tuple #[.nilFunc, .bool false]) w := by
  have hc : ∀ e, (Instr.checkKey e 10000 22 (.int .i64 k)).run Try.prog w = .ok () w := fun e => run_check e 9999 k w
  have hz : (zeroValue 67).run Try.prog w = .ok .nilFunc w := by
    have hi : (Try.prog.info? 67).map (·.zero) = some (some .nilFunc) := by kernel_rfl
    cases hq : Try.prog.info? 67 with
    | none => simp [hq] at hi
    | some i =>
      have hz : i.zero = some .nilFunc := by simpa [hq] using hi
      simp [zeroValue, typeInfo, hq, hz]
  simp [Instr.lookup, run_underlying Try.underlying70, MapKept.run_getObj_map h, hc, run_find hf, hz, Result.andThen]
theorem run_put {w : World} {m : Nat} {es : Array MapEntry} {clock : Nat} (h : w.heap[m]? = some (.map es clock)) (k : Int) (v : Value) (hf : Instr.findNow (.int .i64) (.int .i64 k) es.toList 0 = some none) :
    (Instr.mapUpdate 70 (.map (some m)) (.int .i64 k) v).run Try.prog w = .ok () { w with heap := w.heap.setIfInBounds m (.map (es.push { key := .int .i64 k, val := v, born := clock }) (clock + 1)) } := by
  have hc : ∀ e, (Instr.checkKey e 10000 22 (.int .i64 k)).run Try.prog w = .ok () w := fun e => run_check e 9999 k w
  simp [Instr.mapUpdate, run_underlying Try.underlying70, MapKept.run_getObj_map h, hc, run_find hf, MapKept.run_setObj_map _ h, Result.andThen]

theorem wpList_insert {w : World} {ops : Array Oper} {rest : List Oper} {o : Oper} {a : Act} {Q : Exit → Act → World → Prop} (hg : o.guard = none) (mo ko vo : Operand) (hop : o.op = Op.insert 70 mo ko vo)
    (m : Nat) (k : Int) (v : Value) (es : Array MapEntry) (clock : Nat) (hm : a.eval mo = .map (some m)) (hk : a.eval ko = .int .i64 k) (hv : a.eval vo = v) (hh : w.heap[m]? = some (.map es clock)) (hf : Instr.findNow (.int .i64) (.int .i64 k) es.toList 0 = some none)
    (hK : ∀ w', w'.heap[m]? = some (.map (es.push { key := .int .i64 k, val := v, born := clock }) (clock + 1)) → Only m w w' → wpList Try.prog ops Q rest (a.put o.dst undef) w') : wpList Try.prog ops Q (o :: rest) a w := by
  refine wpList_plain hg fun K' hK' => ?_
  have hrun := run_put hh k v hf
  unfold Oper.wp
  simp [execOp, hop, hm, hk, hv, hrun, Result.andThen]
  refine hK' _ _ (hK _ ?_ ⟨rfl, rfl, rfl, by simp, fun i hi => ?_⟩)
  · have hlt : m < w.heap.size := by
      rcases Nat.lt_or_ge m w.heap.size with h1 | h1
      · exact h1
      · rw [Array.getElem?_eq_none h1] at hh; cases hh
    simp [hlt]
  · simp [Ne.symm hi]

/-- what lay at blocks other than M still does -/
structure Keep (M : Nat) (w w' : World) : Prop where
  os : w'.os = w.os
  tape : w'.tape = w.tape
  output : w'.output = w.output
  size : w.heap.size ≤ w'.heap.size
  block : ∀ k, k < w.heap.size → k ≠ M → w'.heap[k]? = w.heap[k]?
theorem Keep.trans {M : Nat} {a b c : World} (h : Keep M a b) (k : Keep M b c) : Keep M a c := ⟨k.os.trans h.os, k.tape.trans h.tape, k.output.trans h.output, Nat.le_trans h.size k.size, fun i h1 h2 => by rw [k.block i (Nat.lt_of_lt_of_le h1 h.size) h2, h.block i h1 h2]⟩
theorem Keep.only {M : Nat} {w w' : World} (h : Only M w w') : Keep M w w' := ⟨h.os, h.tape, h.output, Nat.le_of_eq h.size, fun k _ hk => h.block k hk⟩
theorem Keep.below {M : Nat} {w w' : World} (h : Below w.heap.size w w') : Keep M w w' := ⟨h.os, h.tape, h.output, h.size, fun k h1 _ => h.block k h1⟩
theorem Keep.at {M b : Nat} {w w' : World} {o : Obj} (h : Keep M w w') (hb : w.heap[b]? = some o) (hne : b ≠ M) : w'.heap[b]? = some o := by
  have hlt : b < w.heap.size := by
    rcases Nat.lt_or_ge b w.heap.size with h1 | h1
    · exact h1
    · rw [Array.getElem?_eq_none h1] at hb; cases hb
  rw [h.block b hlt hne, hb]

/-- a way of a number with its sign: its three boxes -/
structure SBox (w : World) (R : Nat) (k : Int) (most : Nat) (v : Value) : Prop where
  is : ∃ b1 b2 b3, v = .func (.func 93) #[] #[.pointer (some ⟨b1, 0, none⟩), .pointer (some ⟨b2, 0, none⟩), .pointer (some ⟨b3, 0, none⟩)] ∧ (R < b1 ∧ R < b2 ∧ R < b3) ∧ w.heap[b1]? = some (.cells #[.pointer (some ⟨R, 0, none⟩)] 65 (0, 0)) ∧ w.heap[b2]? = some (.cells #[.int .u64 most] 59 (0, 0)) ∧ w.heap[b3]? = some (.cells #[.int .i64 k] 22 (0, 0))
/-- a way of what holds others -/
structure NBox (w : World) (R : Nat) (g : FuncId) (v : Value) : Prop where
  is : ∃ b1 b2, v = .func (.func 96) #[] #[.pointer (some ⟨b1, 0, none⟩), .pointer (some ⟨b2, 0, none⟩)] ∧ (R < b1 ∧ R < b2) ∧ w.heap[b1]? = some (.cells #[.pointer (some ⟨R, 0, none⟩)] 65 (0, 0)) ∧ w.heap[b2]? = some (.cells #[.func (.func g) #[.pointer (some ⟨R, 0, none⟩)] #[]] 67 (0, 0))
theorem SBox.kept {w w' : World} {R : Nat} {k : Int} {most : Nat} {v : Value} (h : SBox w R k most v) (hk : ∀ b (o : Array Value × TypeId), R < b → w.heap[b]? = some (.cells o.1 o.2 (0, 0)) → w'.heap[b]? = some (.cells o.1 o.2 (0, 0))) : SBox w' R k most v := by
  obtain ⟨b1, b2, b3, h1, ⟨r1, r2, r3⟩, h2, h3, h4⟩ := h.is
  exact ⟨b1, b2, b3, h1, ⟨r1, r2, r3⟩, hk b1 (_, _) r1 h2, hk b2 (_, _) r2 h3, hk b3 (_, _) r3 h4⟩
theorem NBox.kept {w w' : World} {R : Nat} {g : FuncId} {v : Value} (h : NBox w R g v) (hk : ∀ b (o : Array Value × TypeId), R < b → w.heap[b]? = some (.cells o.1 o.2 (0, 0)) → w'.heap[b]? = some (.cells o.1 o.2 (0, 0))) : NBox w' R g v := by
  obtain ⟨b1, b2, h1, ⟨r1, r2⟩, h2, h3⟩ := h.is
  exact ⟨b1, b2, h1, ⟨r1, r2⟩, hk b1 (_, _) r1 h2, hk b2 (_, _) r2 h3⟩
/-- a map is no row of cells -/
theorem Keep.cells {M : Nat} {w w' : World} {es : Array MapEntry} {c : Nat} (h : Keep M w w') (hm : w.heap[M]? = some (.map es c)) (R : Nat) : ∀ b (o : Array Value × TypeId), R < b → w.heap[b]? = some (.cells o.1 o.2 (0, 0)) → w'.heap[b]? = some (.cells o.1 o.2 (0, 0)) := by
  intro b o _ hb
  refine h.at hb ?_
  rintro rfl
  rw [hm] at hb
  cases hb

theorem below_at {W X : World} {b : Nat} {o : Obj} (h : Below W.heap.size W X) (hb : W.heap[b]? = some o) : X.heap[b]? = some o := by
  have hlt : b < W.heap.size := by
    rcases Nat.lt_or_ge b W.heap.size with h1 | h1
    · exact h1
    · rw [Array.getElem?_eq_none h1] at hb; cases hb
  rw [h.block b hlt, hb]
theorem nested_any (w : World) (R : Nat) (g : FuncId) (hR : R < w.heap.size) : Calls Try.prog 82 #[.pointer (some ⟨R, 0, none⟩), .func (.func g) #[.pointer (some ⟨R, 0, none⟩)] #[]] w fun e w' => ∃ v, e = .returned v ∧ (∃ fn a b, v = .func fn a b) ∧ NBox w' R g v ∧ Below w.heap.size w w' := by
  have hmf : ∀ (fn : Fn) (first cap : Array Value) (w : World), (Instr.makeFunc fn first cap).run Try.prog w = .ok (.func fn first cap) w := fun _ _ _ _ => rfl
  go_enter Try.func82, Try.ntmps82
  go_wp2
  go_ret
  refine ⟨_, rfl, ⟨_, _, _, rfl⟩, ⟨_, _, rfl, ⟨hR, by omega⟩, ?_, heap2_new _ _ _⟩, (alloc_below _ _).alloc (by simp) _⟩
  rw [(alloc_below _ _).block _ (by simp)]
  exact heap_new _ _
theorem signed_any (w : World) (R : Nat) (k : Int) (hR : R < w.heap.size) (hk : k = 4 ∨ k = 5 ∨ k = 6) : Calls Try.prog 79 #[.pointer (some ⟨R, 0, none⟩), .int .i64 k] w fun e w' => ∃ v, e = .returned v ∧ (∃ fn a b, v = .func fn a b) ∧ SBox w' R k (if k = 4 then 65535 else if k = 5 then 4294967295 else 18446744073709551615) v ∧ Below w.heap.size w w' := by
  have hmf : ∀ (fn : Fn) (first cap : Array Value) (w : World), (Instr.makeFunc fn first cap).run Try.prog w = .ok (.func fn first cap) w := fun _ _ _ _ => rfl
  have key : ∀ (x y z : Obj), ((((w.alloc x).alloc y).alloc z).heap[w.heap.size]? = some x ∧ (((w.alloc x).alloc y).alloc z).heap[w.heap.size + 1]? = some y ∧ (((w.alloc x).alloc y).alloc z).heap[w.heap.size + 1 + 1]? = some z) ∧ Below w.heap.size w (((w.alloc x).alloc y).alloc z) := by
    intro x y z
    refine ⟨⟨?_, ?_, ?_⟩, ((alloc_below _ _).alloc (by simp) _).alloc (by simp; omega) _⟩
    · rw [(alloc_below _ _).block _ (by simp; omega), (alloc_below _ _).block _ (by simp)]; exact heap_new _ _
    · rw [(alloc_below _ _).block _ (by simp)]; exact heap2_new _ _ _
    · have := heap2_new (w.alloc x) y z
      simpa using this
  rcases hk with rfl | rfl | rfl
  · go_enter Try.func79, Try.ntmps79
    go_wp2
    go_ret
    refine ⟨_, rfl, ⟨_, _, _, rfl⟩, ⟨_, _, _, rfl, ⟨hR, by omega, by omega⟩, (key _ _ _).1.1, (key _ _ _).1.2.2, (key _ _ _).1.2.1⟩, (key _ _ _).2⟩
  · go_enter Try.func79, Try.ntmps79
    go_wp2
    go_ret
    refine ⟨_, rfl, ⟨_, _, _, rfl⟩, ⟨_, _, _, rfl, ⟨hR, by omega, by omega⟩, (key _ _ _).1.1, (key _ _ _).1.2.2, (key _ _ _).1.2.1⟩, (key _ _ _).2⟩
  · go_enter Try.func79, Try.ntmps79
    go_wp2
    go_ret
    refine ⟨_, rfl, ⟨_, _, _, rfl⟩, ⟨_, _, _, rfl, ⟨hR, by omega, by omega⟩, (key _ _ _).1.1, (key _ _ _).1.2.2, (key _ _ _).1.2.1⟩, (key _ _ _).2⟩

/-- the map of the ways: for each Kind how a value is taken -/
def esOf (R : Nat) (v4 v5 v6 v9 v11 v12 : Value) : Array MapEntry :=
  #[⟨.int .i64 1, .func (.func 77) #[.pointer (some ⟨R, 0, none⟩)] #[], 0⟩, ⟨.int .i64 3, .func (.func 78) #[.pointer (some ⟨R, 0, none⟩)] #[], 1⟩, ⟨.int .i64 4, v4, 2⟩, ⟨.int .i64 5, v5, 3⟩, ⟨.int .i64 6, v6, 4⟩,
    ⟨.int .i64 7, .func (.func 80) #[.pointer (some ⟨R, 0, none⟩)] #[], 5⟩, ⟨.int .i64 8, .func (.func 81) #[.pointer (some ⟨R, 0, none⟩)] #[], 6⟩, ⟨.int .i64 9, v9, 7⟩, ⟨.int .i64 11, v11, 8⟩, ⟨.int .i64 12, v12, 9⟩]
structure Ways (w : World) (R M : Nat) : Prop where
  is : ∃ v4 v5 v6 v9 v11 v12, w.heap[M]? = some (.map (esOf R v4 v5 v6 v9 v11 v12) 10) ∧ SBox w R 4 65535 v4 ∧ SBox w R 5 4294967295 v5 ∧ SBox w R 6 18446744073709551615 v6 ∧ NBox w R 83 v9 ∧ NBox w R 84 v11 ∧ NBox w R 85 v12
  gt : R < M
theorem Ways.kept {w w' : World} {R M : Nat} (h : Ways w R M) (hk : ∀ b, R < b → b < w.heap.size → w'.heap[b]? = w.heap[b]?) : Ways w' R M := by
  obtain ⟨v4, v5, v6, v9, v11, v12, h0, h4, h5, h6, h9, h11, h12⟩ := h.is
  have lt : ∀ {b : Nat} {o : Obj}, w.heap[b]? = some o → b < w.heap.size := by
    intro b o hb
    rcases Nat.lt_or_ge b w.heap.size with h1 | h1
    · exact h1
    · rw [Array.getElem?_eq_none h1] at hb; cases hb
  have hc : ∀ b (o : Array Value × TypeId), R < b → w.heap[b]? = some (.cells o.1 o.2 (0, 0)) → w'.heap[b]? = some (.cells o.1 o.2 (0, 0)) := fun b o hb ho => by rw [hk b hb (lt ho), ho]
  exact ⟨⟨v4, v5, v6, v9, v11, v12, by rw [hk M h.gt (lt h0), h0], h4.kept hc, h5.kept hc, h6.kept hc, h9.kept hc, h11.kept hc, h12.kept hc⟩, h.gt⟩

set_option maxRecDepth 100000 in
set_option maxHeartbeats 1500000 in
theorem waysOf_any (w : World) (R : Nat) (hR : R < w.heap.size) : Calls Try.prog 60 #[.pointer (some ⟨R, 0, none⟩)] w fun e w' => ∃ M, e = .returned (.map (some M)) ∧ Ways w' R M ∧ Below w.heap.size w w' := by
  have hmf : ∀ (fn : Fn) (first cap : Array Value) (w : World), (Instr.makeFunc fn first cap).run Try.prog w = .ok (.func fn first cap) w := fun _ _ _ _ => rfl
  have hmm := @run_makeMap Try.prog
  have hm0 : (w.alloc (.map #[] 0)).heap[w.heap.size]? = some (.map #[] 0) := heap_new _ _
  have k0 : Keep w.heap.size w (w.alloc (.map #[] 0)) := Keep.below (alloc_below _ _)
  go_enter Try.func60, Try.ntmps60
  have hR0 : R < (w.alloc (.map #[] 0)).heap.size := by simp; omega
  go_wp2_with (first | (refine wpList_insert rfl (.tmp 3) (.const (.int .i64 1)) (.tmp 5) rfl w.heap.size 1 _ _ 0 rfl rfl rfl hm0 rfl ?_; intro W1 hm1 o1; have hr1 := Nat.lt_of_lt_of_le hR0 (Nat.le_of_eq o1.size)) | (refine wpList_insert rfl (.tmp 3) (.const (.int .i64 3)) (.tmp 7) rfl w.heap.size 3 _ _ 1 rfl rfl rfl hm1 rfl ?_; intro W3 hm3 o3; have hr3 := Nat.lt_of_lt_of_le hr1 (Nat.le_of_eq o3.size)))
  refine (signed_any _ R 4 hr3 (by omega)).mono ?_
  rintro e X4 ⟨v4, rfl, ⟨fn4, fa4, fb4, rfl⟩, s4, b4⟩
  have hmx4 := below_at b4 hm3
  have hrx4 := Nat.lt_of_lt_of_le hr3 b4.size
  go_wp2_with (first | (refine wpList_insert rfl (.tmp 3) (.const (.int .i64 4)) (.tmp 9) rfl w.heap.size 4 _ _ 2 rfl rfl rfl hmx4 rfl ?_; intro W4 hm4 o4; have hr4 := Nat.lt_of_lt_of_le hrx4 (Nat.le_of_eq o4.size)))
  refine (signed_any _ R 5 hr4 (by omega)).mono ?_
  rintro e X5 ⟨v5, rfl, ⟨fn5, fa5, fb5, rfl⟩, s5, b5⟩
  have hmx5 := below_at b5 hm4
  have hrx5 := Nat.lt_of_lt_of_le hr4 b5.size
  go_wp2_with (first | (refine wpList_insert rfl (.tmp 3) (.const (.int .i64 5)) (.tmp 11) rfl w.heap.size 5 _ _ 3 rfl rfl rfl hmx5 rfl ?_; intro W5 hm5 o5; have hr5 := Nat.lt_of_lt_of_le hrx5 (Nat.le_of_eq o5.size)))
  refine (signed_any _ R 6 hr5 (by omega)).mono ?_
  rintro e X6 ⟨v6, rfl, ⟨fn6, fa6, fb6, rfl⟩, s6, b6⟩
  have hmx6 := below_at b6 hm5
  have hrx6 := Nat.lt_of_lt_of_le hr5 b6.size
  go_wp2_with (first | (refine wpList_insert rfl (.tmp 3) (.const (.int .i64 6)) (.tmp 13) rfl w.heap.size 6 _ _ 4 rfl rfl rfl hmx6 rfl ?_; intro W6 hm6 o6; have hr6 := Nat.lt_of_lt_of_le hrx6 (Nat.le_of_eq o6.size)) | (refine wpList_insert rfl (.tmp 3) (.const (.int .i64 7)) (.tmp 15) rfl w.heap.size 7 _ _ 5 rfl rfl rfl hm6 rfl ?_; intro W7 hm7 o7; have hr7 := Nat.lt_of_lt_of_le hr6 (Nat.le_of_eq o7.size)) | (refine wpList_insert rfl (.tmp 3) (.const (.int .i64 8)) (.tmp 17) rfl w.heap.size 8 _ _ 6 rfl rfl rfl hm7 rfl ?_; intro W8 hm8 o8; have hr8 := Nat.lt_of_lt_of_le hr7 (Nat.le_of_eq o8.size)))
  refine (nested_any _ R 83 hr8).mono ?_
  rintro e X9 ⟨v9, rfl, ⟨fn9, fa9, fb9, rfl⟩, s9, b9⟩
  have hmx9 := below_at b9 hm8
  have hrx9 := Nat.lt_of_lt_of_le hr8 b9.size
  go_wp2_with (first | (refine wpList_insert rfl (.tmp 3) (.const (.int .i64 9)) (.tmp 21) rfl w.heap.size 9 _ _ 7 rfl rfl rfl hmx9 rfl ?_; intro W9 hm9 o9; have hr9 := Nat.lt_of_lt_of_le hrx9 (Nat.le_of_eq o9.size)))
  refine (nested_any _ R 84 hr9).mono ?_
  rintro e X11 ⟨v11, rfl, ⟨fn11, fa11, fb11, rfl⟩, s11, b11⟩
  have hmx11 := below_at b11 hm9
  have hrx11 := Nat.lt_of_lt_of_le hr9 b11.size
  go_wp2_with (first | (refine wpList_insert rfl (.tmp 3) (.const (.int .i64 11)) (.tmp 25) rfl w.heap.size 11 _ _ 8 rfl rfl rfl hmx11 rfl ?_; intro W11 hm11 o11; have hr11 := Nat.lt_of_lt_of_le hrx11 (Nat.le_of_eq o11.size)))
  refine (nested_any _ R 85 hr11).mono ?_
  rintro e X12 ⟨v12, rfl, ⟨fn12, fa12, fb12, rfl⟩, s12, b12⟩
  have hmx12 := below_at b12 hm11
  have hrx12 := Nat.lt_of_lt_of_le hr11 b12.size
  go_wp2_with (first | (refine wpList_insert rfl (.tmp 3) (.const (.int .i64 12)) (.tmp 29) rfl w.heap.size 12 _ _ 9 rfl rfl rfl hmx12 rfl ?_; intro W12 hm12 o12; have hr12 := Nat.lt_of_lt_of_le hrx12 (Nat.le_of_eq o12.size)))
  go_ret
  have q4 := Keep.cells (M := w.heap.size) ((Keep.only o4).trans ((Keep.below b5).trans ((Keep.only o5).trans ((Keep.below b6).trans ((Keep.only o6).trans ((Keep.only o7).trans ((Keep.only o8).trans ((Keep.below b9).trans ((Keep.only o9).trans ((Keep.below b11).trans ((Keep.only o11).trans ((Keep.below b12).trans ((Keep.only o12)))))))))))))) hmx4 R
  have q5 := Keep.cells (M := w.heap.size) ((Keep.only o5).trans ((Keep.below b6).trans ((Keep.only o6).trans ((Keep.only o7).trans ((Keep.only o8).trans ((Keep.below b9).trans ((Keep.only o9).trans ((Keep.below b11).trans ((Keep.only o11).trans ((Keep.below b12).trans ((Keep.only o12)))))))))))) hmx5 R
  have q6 := Keep.cells (M := w.heap.size) ((Keep.only o6).trans ((Keep.only o7).trans ((Keep.only o8).trans ((Keep.below b9).trans ((Keep.only o9).trans ((Keep.below b11).trans ((Keep.only o11).trans ((Keep.below b12).trans ((Keep.only o12)))))))))) hmx6 R
  have q9 := Keep.cells (M := w.heap.size) ((Keep.only o9).trans ((Keep.below b11).trans ((Keep.only o11).trans ((Keep.below b12).trans ((Keep.only o12)))))) hmx9 R
  have q11 := Keep.cells (M := w.heap.size) ((Keep.only o11).trans ((Keep.below b12).trans ((Keep.only o12)))) hmx11 R
  have q12 := Keep.cells (M := w.heap.size) ((Keep.only o12)) hmx12 R
  have qa := k0.trans ((Keep.only o1).trans ((Keep.only o3).trans ((Keep.below b4).trans ((Keep.only o4).trans ((Keep.below b5).trans ((Keep.only o5).trans ((Keep.below b6).trans ((Keep.only o6).trans ((Keep.only o7).trans ((Keep.only o8).trans ((Keep.below b9).trans ((Keep.only o9).trans ((Keep.below b11).trans ((Keep.only o11).trans ((Keep.below b12).trans ((Keep.only o12)))))))))))))))))
  have hbf : Below w.heap.size w W12 := ⟨qa.os, qa.tape, qa.output, qa.size, fun k hk => qa.block k hk (by omega)⟩
  exact ⟨w.heap.size, rfl, ⟨⟨_, _, _, _, _, _, hm12, s4.kept q4, s5.kept q5, s6.kept q6, s9.kept q9, s11.kept q11, s12.kept q12⟩, hR⟩, hbf⟩
end Go.Proofs.Ytikoddlidhefpaa
