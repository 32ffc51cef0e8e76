/-
  A table of numbers in memory: a row of rows.
-/
import Derived.Test.YtfcjnpbnejaolaaLeaE
import Derived.Test.YtfcjnpbnejaolaaSrt
import Derived.BigRegion
namespace Go.Proofs.Ytfcjnpbnejaolaa
set_option linter.unusedVariables false
set_option linter.unusedSimpArgs false
open Go.ChangeShapes Go.WideShapes Go.ChangeAt Go.RowKit Go.Sort Go.Shelf

theorem infoSS : (Try.prog.info? 22).map (fun i => (i.zero, i.size, i.bytes)) = some (some (.slice none 0 0), 1, 24) := by kernel_rfl
theorem wpList_makeSS (w : World) {ops : Array Oper} {rest : List Oper} {o : Oper} {a : Act} {Q : Exit → Act → World → Prop}
    (hg : o.guard = none) (l c : Operand) (hop : o.op = Op.makeSlice 49 l c) (m : Nat) (hl : a.eval l = .int .i64 (m : Int)) (hc : a.eval c = .int .i64 (m : Int)) (b2 : m ≤ 100000)
    (hK : ∀ w', w'.heap[w.heap.size]? = some (.cells (List.replicate m (.slice none 0 0)).toArray 22 (0, 0)) → Below w.heap.size w w' → wpList Try.prog ops Q rest (a.put o.dst (.slice (some ⟨w.heap.size, 0, none⟩) m m)) w') :
    wpList Try.prog ops Q (o :: rest) a w := by
  obtain ⟨i0, hi, hz0, hz1, hz2⟩ := info_parts infoSS
  refine wpList_make_full _ hg l c 49 hop w.heap.size 22 i0 (.slice none 0 0) 1 Try.underlying49 hi hz0 hz1 _ _ _ _ m hl hc rfl rfl (by rw [hz2]; omega) (by unfold maxLen; omega) (Nat.le_refl _) ?_
  intro w1 r1 r2
  have hv := own_whole r1
  rw [made_s] at hv
  exact hK _ hv ((Below.refl _ w).grown r2 (Nat.le_refl _) (fun _ e => by cases e))

abbrev sl1 (r n : Nat) : Value := .slice (some ⟨r, 0, none⟩) n n
/-- the first i rows of a table of n rows (and n numbers each) are laid, all from block B on: they hold T -/
structure PG (W : World) (B O n i : Nat) (rows : Nat → Nat) (T : Nat → Nat → Nat) : Prop where
  out : ∃ vs : List Value, W.heap[O]? = some (.cells vs.toArray 22 (0, 0)) ∧ vs.length = n ∧ ∀ j, j < i → vs[j]? = some (sl1 (rows j) n)
  row : ∀ j, j < i → ∃ l : List Nat, Vec W (rows j) l ∧ l.length = n ∧ ∀ b, b < n → l.getD b 0 = T j b
  inj : ∀ a b, a < i → b < i → rows a = rows b → a = b
  ne : ∀ j, j < i → rows j ≠ O
  lo : B ≤ O ∧ ∀ j, j < i → B ≤ rows j
theorem PG.lt {W : World} {B O n i : Nat} {rows : Nat → Nat} {T : Nat → Nat → Nat} (h : PG W B O n i rows T) : O < W.heap.size ∧ ∀ j, j < i → rows j < W.heap.size := by
  obtain ⟨vs, h1, _⟩ := h.out
  refine ⟨(Array.getElem?_eq_some_iff.1 h1).1, fun j hj => ?_⟩
  obtain ⟨l, h2, _⟩ := h.row j hj
  exact h2.lt
theorem PG.below {W X : World} {B O n i C : Nat} {rows : Nat → Nat} {T : Nat → Nat → Nat} (h : PG W B O n i rows T) (hb : Below C W X) (hO : O < C) (hr : ∀ j, j < i → rows j < C) : PG X B O n i rows T := by
  obtain ⟨vs, h1, h2, h3⟩ := h.out
  refine ⟨⟨vs, by rw [hb.block O hO]; exact h1, h2, h3⟩, fun j hj => ?_, h.inj, h.ne, h.lo⟩
  obtain ⟨l, e1, e2, e3⟩ := h.row j hj
  exact ⟨l, e1.later hb (hr j hj), e2, e3⟩
theorem PG.later {W X : World} {B O n i : Nat} {rows : Nat → Nat} {T : Nat → Nat → Nat} (h : PG W B O n i rows T) (hb : Below W.heap.size W X) : PG X B O n i rows T := h.below hb h.lt.1 h.lt.2
theorem PG.outer {W : World} {B O n i : Nat} {rows : Nat → Nat} {T : Nat → Nat → Nat} (h : PG W B O n i rows T) {j : Nat} (hj : j < i) : W.cell? ⟨O, j, none⟩ = some (sl1 (rows j) n) := by
  obtain ⟨vs, h1, h2, h3⟩ := h.out
  exact cell_of_block h1 (by simpa using h3 j hj)
theorem PG.outerAny {W : World} {B O n i : Nat} {rows : Nat → Nat} {T : Nat → Nat → Nat} (h : PG W B O n i rows T) {j : Nat} (hj : j < n) : (∃ u, W.cell? ⟨O, j, none⟩ = some u) ∧ W.frozen? ⟨O, j, none⟩ = false := by
  obtain ⟨vs, h1, h2, h3⟩ := h.out
  exact ⟨⟨_, cell_of_block h1 (Array.getElem?_eq_getElem (by simpa using (by omega : j < vs.length)))⟩, frozen_of_block h1⟩
theorem PG.cell {W : World} {B O n i : Nat} {rows : Nat → Nat} {T : Nat → Nat → Nat} (h : PG W B O n i rows T) {j b : Nat} (hj : j < i) (hb : b < n) : W.cell? ⟨rows j, b, none⟩ = some (.int .i64 ((T j b : Nat) : Int)) ∧ W.frozen? ⟨rows j, b, none⟩ = false := by
  obtain ⟨l, h1, h2, h3⟩ := h.row j hj
  rw [← h3 b hb]
  exact ⟨h1.cell (by omega), h1.frozen b⟩
theorem PG.put {W : World} {B O n i : Nat} {rows : Nat → Nat} {T : Nat → Nat → Nat} (h : PG W B O n i rows T) {j b : Nat} (hj : j < i) (hb : b < n) (x : Nat) : PG (W.setCell ⟨rows j, b, none⟩ (.int .i64 (x : Int))) B O n i rows (fun p q => if p = j ∧ q = b then x else T p q) := by
  obtain ⟨vs, h1, h2, h3⟩ := h.out
  refine ⟨⟨vs, by rw [Below.heap_setCell W ⟨rows j, b, none⟩ _ O (fun e => h.ne j hj e.symm)]; exact h1, h2, h3⟩, fun p hp => ?_, h.inj, h.ne, h.lo⟩
  obtain ⟨l, e1, e2, e3⟩ := h.row p hp
  by_cases e : p = j
  · subst e
    refine ⟨l.set b x, e1.set b x, by rw [List.length_set]; exact e2, fun q hq => ?_⟩
    by_cases e4 : q = b
    · subst e4
      rw [if_pos ⟨rfl, rfl⟩]
      simp [List.getD, e2, hq]
    · rw [if_neg (fun h => e4 h.2), ← e3 q hq]
      simp [List.getD, List.getElem?_set, Ne.symm e4]
  · refine ⟨l, e1.other (fun e5 => e (h.inj p j hp hj e5)) _, e2, fun q hq => ?_⟩
    rw [if_neg (fun h => e h.1)]
    exact e3 q hq
/-- a cell of another block -/
theorem PG.other {W : World} {B O n i R b : Nat} {rows : Nat → Nat} {T : Nat → Nat → Nat} (h : PG W B O n i rows T) (hO : R ≠ O) (hr : ∀ j, j < i → rows j ≠ R) (v : Value) : PG (W.setCell ⟨R, b, none⟩ v) B O n i rows T := by
  obtain ⟨vs, h1, h2, h3⟩ := h.out
  refine ⟨⟨vs, by rw [Below.heap_setCell W ⟨R, b, none⟩ _ O (fun e => hO e.symm)]; exact h1, h2, h3⟩, fun p hp => ?_, h.inj, h.ne, h.lo⟩
  obtain ⟨l, e1, e2, e3⟩ := h.row p hp
  exact ⟨l, e1.other (hr p hp) _, e2, e3⟩
/-- the next row's header is laid -/
theorem PG.head {W : World} {B O n i : Nat} {rows : Nat → Nat} {T : Nat → Nat → Nat} (h : PG W B O n i rows T) (hi : i < n) (R : Nat) : PG (W.setCell ⟨O, i, none⟩ (sl1 R n)) B O n i rows T ∧ (W.setCell ⟨O, i, none⟩ (sl1 R n)).cell? ⟨O, i, none⟩ = some (sl1 R n) := by
  obtain ⟨vs, h1, h2, h3⟩ := h.out
  have hset := set_block (j := i) (u := sl1 R n) h1
  have e : vs.toArray.setIfInBounds i (sl1 R n) = (vs.set i (sl1 R n)).toArray := by simp
  rw [e] at hset
  refine ⟨⟨⟨vs.set i (sl1 R n), hset, by rw [List.length_set]; exact h2, fun j hj => by rw [List.getElem?_set_ne (by omega)]; exact h3 j hj⟩, fun p hp => ?_, h.inj, h.ne, h.lo⟩, cell_of_block hset (by simp [h2, hi])⟩
  obtain ⟨l, e1, e2, e3⟩ := h.row p hp
  exact ⟨l, e1.other (h.ne p hp) _, e2, e3⟩
/-- the next row is laid -/
theorem PG.add {W : World} {B O n i R : Nat} {rows : Nat → Nat} {T : Nat → Nat → Nat} (h : PG W B O n i rows T) (hi : i < n) (hc : W.cell? ⟨O, i, none⟩ = some (sl1 R n)) (hR : R ≠ O) (hr : ∀ j, j < i → rows j ≠ R) (hB : B ≤ R) (x : Nat) (hv : Vec W R (List.replicate n x)) (ht : ∀ b, b < n → T i b = x) :
    PG W B O n (i + 1) (fun j => if j = i then R else rows j) T := by
  obtain ⟨vs, h1, h2, h3⟩ := h.out
  have hvi : vs[i]? = some (sl1 R n) := by
    have hl : i < vs.length := by omega
    have e := cell_of_block h1 (show vs.toArray[i]? = some vs[i] by simp [hl])
    rw [hc] at e
    rw [List.getElem?_eq_getElem hl, ← Option.some.inj e]
  refine ⟨⟨vs, h1, h2, fun j hj => ?_⟩, fun p hp => ?_, fun a b ha hb e => ?_, fun j hj => ?_, h.lo.1, fun j hj => ?_⟩
  · by_cases e : j = i
    · rw [if_pos e, e]; exact hvi
    · rw [if_neg e]; exact h3 j (by omega)
  · by_cases e : p = i
    · rw [if_pos e]
      refine ⟨_, hv, by simp, fun b hb => ?_⟩
      rw [e, ht b hb]
      simp [List.getD, List.getElem?_replicate, hb]
    · rw [if_neg e]; exact h.row p (by omega)
  · by_cases ea : a = i <;> by_cases eb : b = i
    · omega
    · rw [if_pos ea, if_neg eb] at e; exact absurd e.symm (hr b (by omega))
    · rw [if_neg ea, if_pos eb] at e; exact absurd e (hr a (by omega))
    · rw [if_neg ea, if_neg eb] at e; exact h.inj a b (by omega) (by omega) e
  · by_cases e : j = i
    · rw [if_pos e]; exact hR
    · rw [if_neg e]; exact h.ne j (by omega)
  · by_cases e : j = i
    · rw [if_pos e]; exact hB
    · rw [if_neg e]; exact h.lo.2 j (by omega)
theorem PG.congr {W : World} {B O n i : Nat} {rows : Nat → Nat} {T T' : Nat → Nat → Nat} (h : PG W B O n i rows T) (ht : ∀ a b, a < i → b < n → T a b = T' a b) : PG W B O n i rows T' := ⟨h.out, fun j hj => by
  obtain ⟨l, e1, e2, e3⟩ := h.row j hj
  exact ⟨l, e1, e2, fun b hb => by rw [e3 b hb, ht j b hj hb]⟩, h.inj, h.ne, h.lo⟩
theorem PG.new {W : World} {B O n : Nat} (rows : Nat → Nat) (T : Nat → Nat → Nat) (h : W.heap[O]? = some (.cells (List.replicate n (.slice none 0 0)).toArray 22 (0, 0))) (hB : B ≤ O) : PG W B O n 0 rows T :=
  ⟨⟨_, h, by simp, fun j hj => by omega⟩, fun j hj => by omega, fun a b ha => by omega, fun j hj => by omega, hB, fun j hj => by omega⟩
/-- a row while it is filled -/
def mix (n k x : Nat) : List Nat := List.replicate k x ++ List.replicate (n - k) 0
theorem mix_len (n k x : Nat) (hk : k ≤ n) : (mix n k x).length = n := by simp [mix]; omega
theorem mix_set (n k x : Nat) (hk : k < n) : (mix n k x).set k x = mix n (k + 1) x := by
  unfold mix
  rw [List.set_append_right _ _ (by simp), List.length_replicate, Nat.sub_self, show n - k = (n - (k + 1)) + 1 from by omega, List.replicate_succ, List.set_cons_zero, List.replicate_succ', List.append_assoc]
  rfl
theorem mix_end (n x : Nat) : mix n n x = List.replicate n x := by simp [mix]
theorem mix_zero (n x : Nat) : mix n 0 x = List.replicate n 0 := by simp [mix]
end Go.Proofs.Ytfcjnpbnejaolaa
