/-
  Rows of numbers that the calls make: what 'make' lays.
-/
import Derived.Test.YtfcjnpbnejaolaaRng
namespace Go.Proofs.Ytfcjnpbnejaolaa
set_option linter.unusedVariables false
set_option linter.unusedSimpArgs false
open Go.RowKit Go.Shelf

attribute [local go_sem] Oper.semAt_some

/-- a row of numbers that is a whole block -/
def Vec (W : World) (R : Nat) (l : List Nat) : Prop := W.heap[R]? = some (.cells (cn l).toArray 3 (0, 0))
theorem Vec.cell {W : World} {R : Nat} {l : List Nat} (h : Vec W R l) {j : Nat} (hj : j < l.length) : W.cell? ⟨R, j, none⟩ = some (.int .i64 ((l.getD j 0 : Nat) : Int)) :=
  cell_of_block h (by rw [List.getElem?_toArray]; exact cn_get hj)
theorem Vec.frozen {W : World} {R : Nat} {l : List Nat} (h : Vec W R l) (j : Nat) : W.frozen? ⟨R, j, none⟩ = false := frozen_of_block h
theorem Vec.set {W : World} {R : Nat} {l : List Nat} (h : Vec W R l) (j x : Nat) : Vec (W.setCell ⟨R, j, none⟩ (.int .i64 (x : Int))) R (l.set j x) := by
  unfold Vec at *
  rw [set_block h, ← cn_set]
  simp
theorem Vec.lt {W : World} {R : Nat} {l : List Nat} (h : Vec W R l) : R < W.heap.size := (Array.getElem?_eq_some_iff.1 h).1
theorem Vec.later {W V : World} {R B : Nat} {l : List Nat} (h : Vec W R l) (hb : Below B W V) (hR : R < B) : Vec V R l := (hb.block R hR).trans h
theorem Vec.other {W : World} {R g j : Nat} {l : List Nat} (h : Vec W R l) (hne : R ≠ g) (v : Value) : Vec (W.setCell ⟨g, j, none⟩ v) R l := (Below.heap_setCell W ⟨g, j, none⟩ v R hne).trans h
theorem Vec.src {W : World} {R : Nat} {l : List Nat} (h : Vec W R l) (c : Nat) : Src W (some ⟨R, 0, none⟩) l.length c (cn l) := by
  refine ⟨cn_len l, .inr ⟨_, rfl, fun j u hj => ?_⟩⟩
  rw [add0]
  exact cell_of_block h (by simpa using hj)

theorem own_whole {W : World} {B e g n : Nat} {xs : List Value} (h : W.ownsRow B e 1 (.slice (some ⟨g, 0, none⟩) n n) n xs) : W.heap[g]? = some (.cells xs.toArray e (0, 0)) := by
  rcases h.2 with ⟨h1, _⟩ | ⟨g', cap, cur, h1, _, h2, h3, h4, h5, h6⟩
  · cases h1
  · cases h1
    have : cur.toList = xs := by
      rw [← h6, List.take_of_length_le (by simp [h5])]
    rw [h2, ← this]
theorem made_zero (n : Nat) : (madeCells (Value.int .i64 0).cells (n * 1)).toList = cn (List.replicate n 0) := by
  have e : (Value.int .i64 0).cells = #[Value.int .i64 0] := rfl
  rw [e]
  unfold madeCells cn ci nm
  apply List.ext_getElem
  · simp
  · intro i h1 h2
    simp [Nat.mod_one]

theorem wpListIn_makeVec {F : Fence} {n : Nat} (w : World) {ops : Array Oper} {rest : List Oper} {o : Oper} {a : Act} {Q : Exit → Act → World → Prop}
    (hg : o.guard = none) (l c : Operand) (hop : o.op = Op.makeSlice 22 l c) (m : Nat) (hl : a.eval l = .int .i64 (m : Int)) (hc : a.eval c = .int .i64 (m : Int)) (b2 : m ≤ 17592186044416)
    (hK : ∀ w', Vec w' w.heap.size (List.replicate m 0) → Below w.heap.size w w' → wpListIn F n Try.prog ops Q rest (a.put o.dst (.slice (some ⟨w.heap.size, 0, none⟩) m m)) w') :
    wpListIn F n Try.prog ops Q (o :: rest) a w := by
  obtain ⟨i0, hi, hz0, hz1, hz2⟩ := info_parts infoI
  refine wpListIn_plain hg fun K hK' => ?_
  obtain ⟨w', hrun, r1, r2⟩ := run_make_full (P := Try.prog) w w.heap.size 22 3 i0 (.int .i64 0) 1 Try.underlying22 hi hz0 hz1 .i64 .i64 m (by rw [hz2]; omega) (by unfold maxLen; omega) (Nat.le_refl _)
  unfold Oper.wpIn
  refine ⟨?_, ?_⟩
  · simp [Oper.about, hop]
  · rw [Oper.semAt_plain F _ _ (by rw [hop]; intro c hc'; cases hc')]
    simp [execOp, hop, hl, hc, hrun, Result.andThen]
    have hv := own_whole r1
    rw [made_zero] at hv
    exact hK' _ _ (hK w' hv ((Below.refl _ w).grown r2 (Nat.le_refl _) (fun _ e => by cases e)))
theorem wpList_makeVec (w : World) {ops : Array Oper} {rest : List Oper} {o : Oper} {a : Act} {Q : Exit → Act → World → Prop}
    (hg : o.guard = none) (l c : Operand) (hop : o.op = Op.makeSlice 22 l c) (m : Nat) (hl : a.eval l = .int .i64 (m : Int)) (hc : a.eval c = .int .i64 (m : Int)) (b2 : m ≤ 17592186044416)
    (hK : ∀ w', Vec w' w.heap.size (List.replicate m 0) → Below w.heap.size w w' → wpList Try.prog ops Q rest (a.put o.dst (.slice (some ⟨w.heap.size, 0, none⟩) m m)) w') :
    wpList Try.prog ops Q (o :: rest) a w := by
  obtain ⟨i0, hi, hz0, hz1, hz2⟩ := info_parts infoI
  refine wpList_make_full _ hg l c 22 hop w.heap.size 3 i0 (.int .i64 0) 1 Try.underlying22 hi hz0 hz1 _ _ _ _ m hl hc rfl rfl (by rw [hz2]; omega) (by unfold maxLen; omega) (Nat.le_refl _) ?_
  intro w1 r1 r2
  have hv := own_whole r1
  rw [made_zero] at hv
  exact hK _ hv ((Below.refl _ w).grown r2 (Nat.le_refl _) (fun _ e => by cases e))
end Go.Proofs.Ytfcjnpbnejaolaa
