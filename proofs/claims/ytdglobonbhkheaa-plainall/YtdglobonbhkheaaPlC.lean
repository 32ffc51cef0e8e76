/-
  A copy of data.
-/
import Derived.Test.YtdglobonbhkheaaDat
import Derived.Test.YtdglobonbhkheaaApp
import Derived.Test.YtdglobonbhkheaaJ5
namespace Go.Proofs.Ytdglobonbhkheaa
set_option linter.unusedVariables false
set_option linter.unusedSimpArgs false
open Go.ChangeShapes Go.WideShapes Go.ChangeAt Go.RowKit Go.Deep

def dcs : List Dat → List Value
  | [] => []
  | d :: l => dcells d ++ dcs l
theorem dcs_len : ∀ l : List Dat, (dcs l).length = l.length * 3
  | [] => rfl
  | d :: l => by simp [dcs, dcells, dcs_len l]; omega
theorem dcs_append : ∀ l m : List Dat, dcs (l ++ m) = dcs l ++ dcs m
  | [], m => rfl
  | d :: l, m => by simp [dcs, dcs_append l m]
theorem dcs_one : ∀ l : List Dat, ∀ u ∈ dcs l, u.oneCell' = true
  | [], u, h => by cases h
  | d :: l, u, h => by
    rcases List.mem_append.1 h with h | h
    · simp [dcells] at h
      rcases h with rfl | rfl | rfl <;> rfl
    · exact dcs_one l u h
/-- the three cells of the i-th -/
theorem dcs_at : ∀ (l : List Dat) (i : Nat) (d : Dat), l[i]? = some d → (dcs l)[i * 3]? = some (.int .i64 d.k) ∧ (dcs l)[i * 3 + 1]? = some (.int .i64 d.n) ∧ (dcs l)[i * 3 + 2]? = some (.string d.s)
  | [], i, d, h => by simp at h
  | x :: l, 0, d, h => by
    simp at h
    subst h
    simp [dcs, dcells]
  | x :: l, i + 1, d, h => by
    have ih := dcs_at l i d (by simpa using h)
    have e : ∀ j, (dcs (x :: l))[j + 3]? = (dcs l)[j]? := by
      intro j
      rw [dcs, List.getElem?_append_right (by simp [dcells])]
      simp [dcells]
    have e0 := e (i * 3)
    have e1 := e (i * 3 + 1)
    have e2 := e (i * 3 + 2)
    rw [show (i + 1) * 3 = i * 3 + 3 from by omega, show i * 3 + 3 + 1 = i * 3 + 1 + 3 from by omega, show i * 3 + 3 + 2 = i * 3 + 2 + 3 from by omega, e0, e1, e2]
    exact ih
theorem dcs_of : ∀ (l : List Dat) (j : Nat) (u : Value), (dcs l)[j]? = some u → ∃ i d, l[i]? = some d ∧ ((j = i * 3 ∧ u = .int .i64 d.k) ∨ (j = i * 3 + 1 ∧ u = .int .i64 d.n) ∨ (j = i * 3 + 2 ∧ u = .string d.s)) := by
  intro l j u h
  have hj : j < (dcs l).length := (List.getElem?_eq_some_iff.1 h).1
  rw [dcs_len] at hj
  have hi : j / 3 < l.length := by omega
  refine ⟨j / 3, l[j / 3], List.getElem?_eq_getElem hi, ?_⟩
  obtain ⟨h0, h1, h2⟩ := dcs_at l (j / 3) _ (List.getElem?_eq_getElem hi)
  have hc : j % 3 = 0 ∨ j % 3 = 1 ∨ j % 3 = 2 := by omega
  rcases hc with hc | hc | hc
  · rw [show j / 3 * 3 = j from by omega, h] at h0
    exact .inl ⟨by omega, by cases h0; rfl⟩
  · rw [show j / 3 * 3 + 1 = j from by omega, h] at h1
    exact .inr (.inl ⟨by omega, by cases h1; rfl⟩)
  · rw [show j / 3 * 3 + 2 = j from by omega, h] at h2
    exact .inr (.inr ⟨by omega, by cases h2; rfl⟩)
theorem drow_cells {w : World} {b o : Nat} {l : List Dat} (h : DRow w b o l) : ∀ j u, (dcs l)[j]? = some u → w.cell? ((⟨b, o, none⟩ : Addr).add j) = some u := by
  intro j u hj
  obtain ⟨i, d, hd, hc⟩ := dcs_of l j u hj
  obtain ⟨c0, c1, c2⟩ := h i d hd
  have e : (⟨b, o, none⟩ : Addr).add j = ⟨b, o + j, none⟩ := by unfold Addr.add; split <;> simp_all
  rw [e]
  rcases hc with ⟨rfl, rfl⟩ | ⟨rfl, rfl⟩ | ⟨rfl, rfl⟩
  · exact c0
  · rw [show o + (i * 3 + 1) = o + i * 3 + 1 from by omega]; exact c1
  · rw [show o + (i * 3 + 2) = o + i * 3 + 2 from by omega]; exact c2
/-- a row of one's own is data -/
theorem own_data {w : World} {B : Nat} {v : Value} {n : Nat} {l : List Dat} (h : w.ownsRow B 48 3 v n (dcs l)) (hw : ∀ d ∈ l, d.wf) (hn : n ≤ 140737488355328) : ∃ a cap, v = .slice a n cap ∧ Data w a n cap l := by
  have hl := h.1
  rw [dcs_len] at hl
  rcases h.2 with ⟨rfl, rfl⟩ | ⟨g, cap, cur, rfl, hb, hg, hnc, _⟩
  · have e : l = [] := List.length_eq_zero_iff.1 (by omega)
    subst e
    exact ⟨none, 0, rfl, rfl, ⟨Nat.le_refl _, fun _ => rfl⟩, Nat.zero_le _, hw, fun h => absurd h (by omega)⟩
  · have hgl : g < w.heap.size := by
      rcases Nat.lt_or_ge g w.heap.size with h1 | h1
      · exact h1
      · rw [Array.getElem?_eq_none h1] at hg; cases hg
    have hc := World.ownsRow.cells (g := g) h rfl
    refine ⟨_, _, rfl, by omega, ⟨hnc, fun h => by cases h⟩, hn, hw, fun _ => ⟨g, 0, rfl, hgl, fun i d hd => ?_⟩⟩
    obtain ⟨h0, h1, h2⟩ := dcs_at l i d hd
    have c0 := hc _ _ h0
    have c1 := hc _ _ h1
    have c2 := hc _ _ h2
    have e : ∀ j, (⟨g, 0, none⟩ : Addr).add j = ⟨g, 0 + j, none⟩ := by intro j; unfold Addr.add; split <;> simp_all
    rw [e] at c0 c1 c2
    exact ⟨c0, by rw [show 0 + i * 3 + 1 = 0 + (i * 3 + 1) from by omega]; exact c1, by rw [show 0 + i * 3 + 2 = 0 + (i * 3 + 2) from by omega]; exact c2⟩
theorem infoD : (Try.prog.info? 48).map (fun i => (i.zero, i.size, i.bytes)) = some (some (.agg #[.int .i64 0, .int .i64 0, .string { data := #[] }]), 3, 32) := by kernel_rfl
/-- append of data to none -/
theorem copy_run {w : World} {a : Option Addr} {len cap : Nat} {l : List Dat} (h : Data w a len cap l) (hlen : len ≤ 1099511627776) :
    ∃ v w', (Builtin.append_ #[25, 25] 25 #[.slice none 0 0, .slice a len cap]).run Try.prog w = .ok v w' ∧ w'.ownsRow w.heap.size 48 3 v len (dcs l) ∧ Below w.heap.size w w' := by
  obtain ⟨i0, hi, hz0, hz1, hz2⟩ := info_parts infoD
  have hl := h.1
  have hown : w.ownsRow w.heap.size 48 3 (.slice none 0 0) 0 [] := World.ownsRow_nil _ _ _ _
  cases a with
  | none =>
    have hc := h.2.1.2 rfl
    have hle := h.2.1.1
    have hl0 : len = 0 := by omega
    subst hc hl0
    have e : l = [] := List.length_eq_zero_iff.1 hl
    subst e
    exact ⟨_, _, run_append_owned_none (P := Try.prog) w w.heap.size 25 25 48 i0 3 Try.underlying25 hi _ 0 [] hown, hown, Below.refl _ _⟩
  | some p =>
    have hcells : ∀ j u, (dcs l)[j]? = some u → w.cell? (p.add j) = some u := by
      intro j u hj
      rcases Nat.eq_zero_or_pos len with h0 | h0
      · have e : l = [] := List.length_eq_zero_iff.1 (by omega)
        subst e
        simp [dcs] at hj
      · obtain ⟨b, o, e, _, hr⟩ := h.2.2.2.2 h0
        cases e
        exact drow_cells hr j u hj
    obtain ⟨v', W', hr, h2, h3, _⟩ := run_append_own (P := Try.prog) w w.heap.size 25 25 48 i0 _ 3 32 Try.underlying25 hi hz0 hz1 hz2 rfl (by decide) _ 0 [] hown p len cap (dcs l) (by rw [dcs_len, hl]) hcells (dcs_one l) (by unfold maxLen; omega) (by omega) (Nat.le_refl _)
    rw [Nat.zero_add, List.nil_append] at h2
    exact ⟨v', W', hr, h2, (Below.refl _ w).grown h3 (Nat.le_refl _) (fun k hk => (hown.lt k hk).1)⟩
end Go.Proofs.Ytdglobonbhkheaa
