/-
  A block with a byte more or less.
-/
import Derived.Test.YtkkignjenjdjiaaRdF
namespace Go.Proofs.Ytkkignjenjdjiaa
set_option linter.unusedVariables false

/-- with a row behind it the same is read -/
theorem sNumF_more : ∀ (l : List Nat) (n j : Nat) {x : Nat} {r t : List Nat}, sNumF n j l = .ok (x, r) → sNumF n j (l ++ t) = .ok (x, r ++ t)
  | [], _, _, _, _, _, h => by cases h
  | c :: l, n, j, x, r, t, h => by
    simp only [List.cons_append, sNumF] at h ⊢
    by_cases hc : 4294967295 < n + c % 128 * 2 ^ (7 * j) + (if 128 ≤ c then 128 * 2 ^ (7 * j) else 0) ∨ (c = 0 ∧ 0 < j)
    · rw [if_pos hc] at h
      cases h
    · rw [if_neg hc] at h ⊢
      by_cases h2 : c < 128
      · rw [if_pos h2] at h ⊢
        cases h
        rfl
      · rw [if_neg h2] at h ⊢
        exact sNumF_more l _ _ h
theorem sLow_more {k : Nat} {l r t : List Nat} {x : Nat} (h : sLow k l = .ok (x, r)) : sLow k (l ++ t) = .ok (x, r ++ t) := by
  obtain ⟨rfl, rfl, hk⟩ := sLow_ok h
  unfold sLow
  rw [if_neg (by simp; omega), List.take_append_of_le_length hk, List.drop_append_of_le_length hk]
theorem sBytes_more {size n : Nat} {made l m r t : List Nat} (h : sBytes size made l n = .ok (m, r)) : sBytes size made (l ++ t) n = .ok (m, r ++ t) := by
  unfold sBytes at h ⊢
  by_cases h1 : size < made.length + (n + 1)
  · rw [if_pos h1] at h; cases h
  rw [if_neg h1] at h ⊢
  by_cases h2 : l.length < n + 1
  · rw [if_pos h2] at h; cases h
  · rw [if_neg h2] at h
    rw [if_neg (by simp; omega)]
    cases h
    rw [List.take_append_of_le_length (by omega), List.drop_append_of_le_length (by omega)]
theorem sMore_more {size n : Nat} {made l m r t : List Nat} (h : sMore size made n l = .ok (m, r)) : sMore size made n (l ++ t) = .ok (m, r ++ t) := by
  unfold sMore at h ⊢
  by_cases h1 : n < 60
  · rw [if_pos h1] at h ⊢
    exact sBytes_more h
  · rw [if_neg h1] at h ⊢
    cases hl : sLow (n - 59) l with
    | error e => rw [hl] at h; cases h
    | ok xr =>
      obtain ⟨x, r'⟩ := xr
      rw [hl] at h
      rw [sLow_more hl]
      exact sBytes_more h
theorem sFrom_more {size k n far : Nat} {made l m r t : List Nat} (h : sFrom size made k n far l = .ok (m, r)) : sFrom size made k n far (l ++ t) = .ok (m, r ++ t) := by
  unfold sFrom at h ⊢
  cases hl : sLow k l with
  | error e => rw [hl] at h; cases h
  | ok xr =>
    obtain ⟨x, r'⟩ := xr
    rw [hl] at h
    rw [sLow_more hl]
    simp only at h ⊢
    cases hc : sCopy size made n (far + x) with
    | error e => rw [hc] at h; cases h
    | ok m' =>
      rw [hc] at h
      cases h
      rfl
theorem sPart_more {size : Nat} {made l m r t : List Nat} (h : sPart size made l = .ok (m, r)) : sPart size made (l ++ t) = .ok (m, r ++ t) := by
  cases l with
  | nil => cases h
  | cons b l =>
    simp only [List.cons_append, sPart] at h ⊢
    by_cases h0 : b % 4 = 0
    · rw [if_pos h0] at h ⊢; exact sMore_more h
    rw [if_neg h0] at h ⊢
    by_cases h1 : b % 4 = 1
    · rw [if_pos h1] at h ⊢; exact sFrom_more h
    rw [if_neg h1] at h ⊢
    by_cases h2 : b % 4 = 2
    · rw [if_pos h2] at h ⊢; exact sFrom_more h
    · rw [if_neg h2] at h ⊢; exact sFrom_more h
theorem sParts_more {size : Nat} : ∀ (f : Nat) {made l m r t : List Nat}, sParts size f made l = .ok (m, r) → sParts size f made (l ++ t) = .ok (m, r ++ t)
  | 0, _, _, _, _, _, h => by cases h
  | f + 1, made, l, m, r, t, h => by
    simp only [sParts] at h ⊢
    by_cases h1 : size ≤ made.length
    · rw [if_pos h1] at h ⊢
      cases h
      rfl
    · rw [if_neg h1] at h ⊢
      cases hp : sPart size made l with
      | error e => rw [hp] at h; cases h
      | ok ml =>
        obtain ⟨m1, l1⟩ := ml
        rw [hp] at h
        rw [sPart_more hp]
        exact sParts_more f h

/-- without its last byte: too short, if that was taken; else the same is read -/
def Last {α : Type} (x y : Except Int (α × List Nat)) (c : Nat) : Prop := ∀ a r, x = .ok (a, r) → (r = [] ∧ y = .error 6) ∨ ∃ r', r = r' ++ [c] ∧ y = .ok (a, r')
theorem sLow_last (k : Nat) (l : List Nat) (c : Nat) : Last (sLow k (l ++ [c])) (sLow k l) c := by
  intro a r h
  obtain ⟨rfl, rfl, hk⟩ := sLow_ok h
  simp at hk
  by_cases h1 : k ≤ l.length
  · right
    refine ⟨l.drop k, List.drop_append_of_le_length h1, ?_⟩
    unfold sLow
    rw [if_neg (by omega), List.take_append_of_le_length h1]
  · left
    refine ⟨List.drop_eq_nil_of_le (by simp; omega), ?_⟩
    unfold sLow
    rw [if_pos (by omega)]
theorem sBytes_last (size n : Nat) (made l : List Nat) (c : Nat) : Last (sBytes size made (l ++ [c]) n) (sBytes size made l n) c := by
  intro a r h
  unfold sBytes at h ⊢
  by_cases h1 : size < made.length + (n + 1)
  · rw [if_pos h1] at h; cases h
  rw [if_neg h1] at h ⊢
  by_cases h2 : (l ++ [c]).length < n + 1
  · rw [if_pos h2] at h; cases h
  rw [if_neg h2] at h
  cases h
  simp at h2
  by_cases h3 : l.length < n + 1
  · left
    exact ⟨List.drop_eq_nil_of_le (by simp; omega), by rw [if_pos h3]⟩
  · right
    refine ⟨l.drop (n + 1), List.drop_append_of_le_length (by omega), ?_⟩
    rw [if_neg h3, List.take_append_of_le_length (by omega)]
theorem sMore_last (size n : Nat) (made l : List Nat) (c : Nat) : Last (sMore size made n (l ++ [c])) (sMore size made n l) c := by
  unfold sMore
  by_cases h1 : n < 60
  · rw [if_pos h1, if_pos h1]
    exact sBytes_last size n made l c
  · rw [if_neg h1, if_neg h1]
    intro a r h
    cases hl : sLow (n - 59) (l ++ [c]) with
    | error e => rw [hl] at h; cases h
    | ok xr =>
      obtain ⟨x, r1⟩ := xr
      rw [hl] at h
      simp only at h
      rcases sLow_last _ _ _ _ _ hl with ⟨rfl, h2⟩ | ⟨r', rfl, h2⟩
      · have := sBytes_ok h
        simp at this
      · rw [h2]
        exact sBytes_last size x made r' c a r h
theorem sFrom_last (size k n far : Nat) (made l : List Nat) (c : Nat) : Last (sFrom size made k n far (l ++ [c])) (sFrom size made k n far l) c := by
  unfold sFrom
  intro a r h
  cases hl : sLow k (l ++ [c]) with
  | error e => rw [hl] at h; cases h
  | ok xr =>
    obtain ⟨x, r1⟩ := xr
    rw [hl] at h
    simp only at h
    rcases sLow_last _ _ _ _ _ hl with ⟨rfl, h2⟩ | ⟨r', rfl, h2⟩
    · rw [h2]
      cases hc : sCopy size made n (far + x) with
      | error e => rw [hc] at h; cases h
      | ok m' =>
        rw [hc] at h
        cases h
        exact .inl ⟨rfl, rfl⟩
    · rw [h2]
      simp only
      cases hc : sCopy size made n (far + x) with
      | error e => rw [hc] at h; cases h
      | ok m' =>
        rw [hc] at h
        cases h
        exact .inr ⟨r', rfl, rfl⟩
theorem sPart_last (size : Nat) (made l : List Nat) (c : Nat) : Last (sPart size made (l ++ [c])) (sPart size made l) c := by
  cases l with
  | nil =>
    intro a r h
    left
    have h3 := (sPart_ok h).2.2
    simp only [List.nil_append, List.length_cons, List.length_nil] at h3
    exact ⟨List.length_eq_zero_iff.1 (by omega), rfl⟩
  | cons b l =>
    simp only [List.cons_append, sPart]
    by_cases h0 : b % 4 = 0
    · rw [if_pos h0, if_pos h0]; exact sMore_last _ _ _ _ _
    rw [if_neg h0, if_neg h0]
    by_cases h1 : b % 4 = 1
    · rw [if_pos h1, if_pos h1]; exact sFrom_last _ _ _ _ _ _ _
    rw [if_neg h1, if_neg h1]
    by_cases h2 : b % 4 = 2
    · rw [if_pos h2, if_pos h2]; exact sFrom_last _ _ _ _ _ _ _
    · rw [if_neg h2, if_neg h2]; exact sFrom_last _ _ _ _ _ _ _
theorem sNumF_len1 {n j c x : Nat} {r : List Nat} (h : sNumF n j ([] ++ [c]) = .ok (x, r)) : r = [] := by
  simp only [List.nil_append, sNumF] at h
  by_cases hc : 4294967295 < n + c % 128 * 2 ^ (7 * j) + (if 128 ≤ c then 128 * 2 ^ (7 * j) else 0) ∨ (c = 0 ∧ 0 < j)
  · rw [if_pos hc] at h; cases h
  · rw [if_neg hc] at h
    by_cases h2 : c < 128
    · rw [if_pos h2] at h
      cases h
      rfl
    · rw [if_neg h2] at h
      cases h
theorem sNumF_last : ∀ (l : List Nat) (n j : Nat) (c : Nat), Last (sNumF n j (l ++ [c])) (sNumF n j l) c
  | [], n, j, c => by
    intro a r h
    left
    have := sNumF_len1 h
    exact ⟨this, rfl⟩
  | d :: l, n, j, c => by
    intro a r h
    simp only [List.cons_append, sNumF] at h ⊢
    by_cases hc : 4294967295 < n + d % 128 * 2 ^ (7 * j) + (if 128 ≤ d then 128 * 2 ^ (7 * j) else 0) ∨ (d = 0 ∧ 0 < j)
    · rw [if_pos hc] at h; cases h
    · rw [if_neg hc] at h ⊢
      by_cases h2 : d < 128
      · rw [if_pos h2] at h ⊢
        cases h
        exact .inr ⟨l, rfl, rfl⟩
      · rw [if_neg h2] at h ⊢
        exact sNumF_last l _ _ c a r h
theorem sParts_last {size : Nat} : ∀ (f : Nat) {made l m : List Nat} {c : Nat}, sParts size f made (l ++ [c]) = .ok (m, []) → sParts size f made l = .error 6
  | 0, _, _, _, _, h => by cases h
  | f + 1, made, l, m, c, h => by
    simp only [sParts] at h ⊢
    by_cases h1 : size ≤ made.length
    · rw [if_pos h1] at h
      simp at h
    · rw [if_neg h1] at h ⊢
      cases hp : sPart size made (l ++ [c]) with
      | error e => rw [hp] at h; cases h
      | ok ml =>
        obtain ⟨m1, l1⟩ := ml
        rw [hp] at h
        simp only at h
        rcases sPart_last _ _ _ _ _ _ hp with ⟨rfl, h2⟩ | ⟨r', rfl, h2⟩
        · rw [h2]
        · rw [h2]
          exact sParts_last f h
theorem sParts_len {size : Nat} : ∀ (f : Nat) {made l m r : List Nat}, made.length ≤ size → sParts size f made l = .ok (m, r) → m.length = size
  | 0, _, _, _, _, _, h => by cases h
  | f + 1, made, l, m, r, hm, h => by
    simp only [sParts] at h
    by_cases h1 : size ≤ made.length
    · rw [if_pos h1] at h
      cases h
      omega
    · rw [if_neg h1] at h
      cases hp : sPart size made l with
      | error e => rw [hp] at h; cases h
      | ok ml =>
        obtain ⟨m1, l1⟩ := ml
        rw [hp] at h
        exact sParts_len f (sPart_ok hp).2.1 h
theorem sBlock_ok {most : Nat} {l d : List Nat} (h : sBlock most l = .ok d) : ∃ n r, sNum l = .ok (n, r) ∧ ¬ most < n ∧ sParts n (n + 1) [] r = .ok (d, []) ∧ d.length = n := by
  unfold sBlock at h
  cases hn : sNum l with
  | error e => rw [hn] at h; cases h
  | ok nr =>
    obtain ⟨n, r⟩ := nr
    rw [hn] at h
    simp only at h
    by_cases hm : most < n
    · rw [if_pos hm] at h; cases h
    · rw [if_neg hm] at h
      cases hp : sParts n (n + 1) [] r with
      | error e => rw [hp] at h; cases h
      | ok ml =>
        obtain ⟨m, l'⟩ := ml
        rw [hp] at h
        cases l' with
        | nil =>
          cases h
          exact ⟨n, r, rfl, hm, hp, sParts_len _ (by simp) hp⟩
        | cons _ _ => cases h
/-- a byte more -/
theorem sBlock_more {most : Nat} {l d : List Nat} {c : Nat} (h : sBlock most l = .ok d) : sBlock most (l ++ [c]) = .error 7 := by
  obtain ⟨n, r, h1, h2, h3, _⟩ := sBlock_ok h
  unfold sBlock
  have h4 : sNum (l ++ [c]) = .ok (n, r ++ [c]) := sNumF_more l 0 0 h1
  rw [h4]
  simp only
  rw [if_neg h2, sParts_more _ h3]
  rfl
/-- a byte less -/
theorem sBlock_less {most : Nat} {l d : List Nat} {c : Nat} (h : sBlock most (l ++ [c]) = .ok d) : sBlock most l = .error 6 := by
  obtain ⟨n, r, h1, h2, h3, _⟩ := sBlock_ok h
  unfold sBlock
  rcases sNumF_last l 0 0 c _ _ h1 with ⟨rfl, h4⟩ | ⟨r', rfl, h4⟩
  · have h5 : sNum l = .error 6 := h4
    rw [h5]
  · have h5 : sNum l = .ok (n, r') := h4
    rw [h5]
    simp only
    rw [if_neg h2, sParts_last _ h3]
    rfl
theorem sLow_err {k : Nat} {l : List Nat} {c : Int} (h : sLow k l = .error c) : ¬ c = 0 := by
  unfold sLow at h
  split at h
  · cases h; omega
  · cases h
theorem sBytes_err {size n : Nat} {made l : List Nat} {c : Int} (h : sBytes size made l n = .error c) : ¬ c = 0 := by
  unfold sBytes at h
  split at h
  · cases h; omega
  split at h
  · cases h; omega
  · cases h
theorem sMore_err {size n : Nat} {made l : List Nat} {c : Int} (h : sMore size made n l = .error c) : ¬ c = 0 := by
  unfold sMore at h
  by_cases h1 : n < 60
  · rw [if_pos h1] at h; exact sBytes_err h
  · rw [if_neg h1] at h
    cases hl : sLow (n - 59) l with
    | error e => rw [hl] at h; cases h; exact sLow_err hl
    | ok xr => rw [hl] at h; exact sBytes_err h
theorem sFrom_err {size k n far : Nat} {made l : List Nat} {c : Int} (h : sFrom size made k n far l = .error c) : ¬ c = 0 := by
  unfold sFrom at h
  cases hl : sLow k l with
  | error e => rw [hl] at h; cases h; exact sLow_err hl
  | ok xr =>
    rw [hl] at h
    simp only at h
    cases hc : sCopy size made n (far + xr.1) with
    | error e =>
      rw [hc] at h
      cases h
      unfold sCopy at hc
      split at hc
      · cases hc; omega
      split at hc
      · cases hc; omega
      · cases hc
    | ok m' => rw [hc] at h; cases h
theorem sPart_err {size : Nat} {made l : List Nat} {c : Int} (h : sPart size made l = .error c) : ¬ c = 0 := by
  cases l with
  | nil => cases h; omega
  | cons b l =>
    simp only [sPart] at h
    by_cases h0 : b % 4 = 0
    · rw [if_pos h0] at h; exact sMore_err h
    rw [if_neg h0] at h
    by_cases h1 : b % 4 = 1
    · rw [if_pos h1] at h; exact sFrom_err h
    rw [if_neg h1] at h
    by_cases h2 : b % 4 = 2
    · rw [if_pos h2] at h; exact sFrom_err h
    · rw [if_neg h2] at h; exact sFrom_err h
theorem sParts_err {size : Nat} : ∀ (f : Nat) {made l : List Nat} {c : Int}, made.length ≤ size → size < made.length + f → sParts size f made l = .error c → ¬ c = 0
  | 0, _, _, _, h0, h1, _ => by omega
  | f + 1, made, l, c, h0, h1, h => by
    simp only [sParts] at h
    by_cases h2 : size ≤ made.length
    · rw [if_pos h2] at h; cases h
    · rw [if_neg h2] at h
      cases hp : sPart size made l with
      | error e => rw [hp] at h; cases h; exact sPart_err hp
      | ok ml =>
        obtain ⟨m1, l1⟩ := ml
        rw [hp] at h
        have := sPart_ok hp
        exact sParts_err f (by omega) (by omega) h
theorem sNumF_err0 : ∀ (l : List Nat) (n j : Nat) {c : Int}, sNumF n j l = .error c → ¬ c = 0
  | [], _, _, _, h => by cases h; omega
  | c :: l, n, j, e, h => by
    simp only [sNumF] at h
    by_cases hc : 4294967295 < n + c % 128 * 2 ^ (7 * j) + (if 128 ≤ c then 128 * 2 ^ (7 * j) else 0) ∨ (c = 0 ∧ 0 < j)
    · rw [if_pos hc] at h
      cases h
      omega
    · rw [if_neg hc] at h
      by_cases h2 : c < 128
      · rw [if_pos h2] at h
        cases h
      · rw [if_neg h2] at h
        exact sNumF_err0 l _ _ h
theorem sNum_err0 {l : List Nat} {c : Int} (h : sNum l = .error c) : ¬ c = 0 := sNumF_err0 l 0 0 h
theorem sBlock_err {most : Nat} {l : List Nat} {c : Int} (h : sBlock most l = .error c) : ¬ c = 0 := by
  unfold sBlock at h
  cases hn : sNum l with
  | error e => rw [hn] at h; cases h; exact sNum_err0 hn
  | ok nr =>
    obtain ⟨n, r⟩ := nr
    rw [hn] at h
    simp only at h
    by_cases hm : most < n
    · rw [if_pos hm] at h; cases h; omega
    · rw [if_neg hm] at h
      cases hp : sParts n (n + 1) [] r with
      | error e => rw [hp] at h; cases h; exact sParts_err _ (by simp) (by simp) hp
      | ok ml =>
        obtain ⟨m, l'⟩ := ml
        rw [hp] at h
        cases l' with
        | nil => cases h
        | cons _ _ => cases h; omega
end Go.Proofs.Ytkkignjenjdjiaa
