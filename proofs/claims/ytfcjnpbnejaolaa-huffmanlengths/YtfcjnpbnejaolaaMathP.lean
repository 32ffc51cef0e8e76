/-
  Packages, as plain mathematics: pairs, merging, steps, what is taken.
-/
import Derived.Test.YtfcjnpbnejaolaaRows
namespace Go.Proofs.Ytfcjnpbnejaolaa

/-- a package: what it weighs, and whether it is a pair -/
abbrev Pk := Nat × Bool
def mrgGo (x : Pk) (a : List Pk) (rest : List Pk → List Pk) : List Pk → List Pk
  | [] => x :: a
  | y :: b => if y.1 < x.1 then y :: mrgGo x a rest b else x :: rest (y :: b)
/-- two lists as one: of what is alike the first's is ahead -/
def mrg : List Pk → List Pk → List Pk
  | [] => fun b => b
  | x :: a => mrgGo x a (mrg a)
theorem mrg_nil (b : List Pk) : mrg [] b = b := rfl
theorem mrg_cons (x : Pk) (a : List Pk) (y : Pk) (b : List Pk) : mrg (x :: a) (y :: b) = if y.1 < x.1 then y :: mrg (x :: a) b else x :: mrg a (y :: b) := rfl
theorem mrg_nil2 (a : List Pk) : mrg a [] = a := by cases a <;> rfl
/-- by twos -/
def prs : List Pk → List Pk
  | x :: y :: t => (x.1 + y.1, true) :: prs t
  | _ => []
/-- the steps -/
def stp (s : List Pk) : Nat → List Pk
  | 0 => s
  | j + 1 => mrg s (prs (stp s j))
/-- how many pairs there are -/
def cntP (l : List Pk) : Nat := (l.filter (·.2)).length
/-- each of these symbols has a bit more -/
def lng (ls : List Nat) (sy : List Nat) : List Nat := sy.foldl (fun r i => r.set i (r.getD i 0 + 1)) ls
/-- the steps gone back, j of them left, of which t packages are taken -/
def back (s : List Pk) (sy : List Nat) : Nat → Nat → List Nat → List Nat
  | 0, _, ls => ls
  | j + 1, t, ls => back s sy j (2 * cntP ((stp s j).take t)) (lng ls (sy.take (t - cntP ((stp s j).take t))))
/-- the single packages of symbols -/
def sgl (c : List Nat) (sy : List Nat) : List Pk := sy.map fun i => (c.getD i 0, false)
def lensOf (c : List Nat) (sy : List Nat) (limit : Nat) : List Nat :=
  if sy.length < 2 then lng (List.replicate c.length 0) sy else back (sgl c sy) sy limit (2 * sy.length - 2) (List.replicate c.length 0)

theorem prs_len : ∀ l : List Pk, (prs l).length = l.length / 2
  | [] => by simp [prs]
  | [_] => by simp [prs]
  | x :: y :: t => by
    have := prs_len t
    simp only [prs, List.length_cons, this]
    omega
theorem prs_get : ∀ (l : List Pk) (i : Nat), i < l.length / 2 → (prs l)[i]? = some ((l.getD (2 * i) (0, false)).1 + (l.getD (2 * i + 1) (0, false)).1, true)
  | [], i, h => by simp at h
  | [_], i, h => by simp at h
  | x :: y :: t, 0, _ => by simp [prs]
  | x :: y :: t, i + 1, h => by
    have := prs_get t i (by simp at h; omega)
    simp only [prs, List.getElem?_cons_succ, this]
    simp [show 2 * (i + 1) = 2 * i + 1 + 1 from by omega, List.getD]
theorem mrg_len : ∀ a b : List Pk, (mrg a b).length = a.length + b.length := by
  intro a
  induction a with
  | nil => intro b; simp [mrg]
  | cons x a ih =>
    intro b
    induction b with
    | nil => simp [mrg_nil2]
    | cons y b ihb =>
      rw [mrg_cons]
      split
      · simp only [List.length_cons, ihb]; omega
      · simp only [List.length_cons, ih]; omega
theorem mrg_mem : ∀ a b : List Pk, ∀ p, p ∈ mrg a b ↔ p ∈ a ∨ p ∈ b := by
  intro a
  induction a with
  | nil => intro b p; simp [mrg]
  | cons x a ih =>
    intro b
    induction b with
    | nil => intro p; simp [mrg_nil2]
    | cons y b ihb =>
      intro p
      rw [mrg_cons]
      split
      · rw [List.mem_cons, ihb]; simp only [List.mem_cons]; constructor <;> (rintro (h | h) <;> simp_all) <;> (rcases h with h | h <;> simp_all)
      · rw [List.mem_cons, ih]; simp only [List.mem_cons]; constructor <;> (rintro (h | h) <;> simp_all) <;> (rcases h with h | h <;> simp_all)
theorem prs_mem : ∀ (l : List Pk) (M : Nat), (∀ p ∈ l, p.1 ≤ M) → ∀ p ∈ prs l, p.1 ≤ 2 * M
  | [], M, _, p, h => by simp [prs] at h
  | [_], M, _, p, h => by simp [prs] at h
  | x :: y :: t, M, hM, p, h => by
    rw [prs, List.mem_cons] at h
    rcases h with rfl | h
    · have h1 := hM x (by simp)
      have h2 := hM y (by simp)
      simp only
      omega
    · exact prs_mem t M (fun q hq => hM q (by simp [hq])) p h
theorem stp_le (s : List Pk) (M : Nat) (h : ∀ p ∈ s, p.1 ≤ M) : ∀ j, ∀ p ∈ stp s j, p.1 ≤ M * 2 ^ j
  | 0 => by simpa [stp] using h
  | j + 1 => by
    intro p hp
    rw [stp, mrg_mem] at hp
    have h2 : M ≤ M * 2 ^ (j + 1) := Nat.le_mul_of_pos_right _ (Nat.two_pow_pos _)
    rcases hp with hp | hp
    · exact Nat.le_trans (h p hp) h2
    · have := prs_mem _ _ (stp_le s M h j) p hp
      rw [Nat.pow_succ, ← Nat.mul_assoc, Nat.mul_comm _ 2]
      exact this
theorem stp_len_le (s : List Pk) : ∀ j, (stp s j).length ≤ 2 * s.length
  | 0 => by simp [stp]; omega
  | j + 1 => by
    have := stp_len_le s j
    rw [stp, mrg_len, prs_len]
    omega
theorem cntP_le (l : List Pk) : cntP l ≤ l.length := List.length_filter_le _ _
theorem cntP_append (a b : List Pk) : cntP (a ++ b) = cntP a + cntP b := by simp [cntP]
theorem lng_len (ls sy : List Nat) : (lng ls sy).length = ls.length := by
  unfold lng
  induction sy generalizing ls with
  | nil => rfl
  | cons x sy ih => rw [List.foldl_cons, ih]; simp
theorem lng_snoc (ls sy : List Nat) (x : Nat) : lng ls (sy ++ [x]) = (lng ls sy).set x ((lng ls sy).getD x 0 + 1) := by simp [lng]
theorem lng_bound (sy : List Nat) : ∀ (M : Nat) (ls : List Nat), (∀ i, ls.getD i 0 ≤ M) → ∀ i, (lng ls sy).getD i 0 ≤ M + sy.length := by
  induction sy with
  | nil => intro M ls h i; simpa [lng] using h i
  | cons x sy ih =>
    intro M ls h i
    have h2 : ∀ i, (ls.set x (ls.getD x 0 + 1)).getD i 0 ≤ M + 1 := by
      intro i
      simp only [List.getD, List.getElem?_set]
      have hi := h i
      have hx := h x
      simp only [List.getD] at hi hx
      by_cases e : x = i
      · subst e
        simp only [if_true]
        split <;> simp <;> omega
      · simp only [e, if_false]
        omega
    have := ih (M + 1) (ls.set x (ls.getD x 0 + 1)) h2 i
    simp only [lng, List.foldl_cons, List.length_cons] at this ⊢
    omega
end Go.Proofs.Ytfcjnpbnejaolaa
