/-
  What a block makes, by definition: numbers, parts, copies.
-/
namespace Go.Proofs.Ytkkignjenjdjiaa

/-- a number of bytes, the lowest ahead -/
def little : List Nat → Nat
  | [] => 0
  | b :: r => b + 256 * little r
/-- the number ahead of the parts -/
def sNumF : Nat → Nat → List Nat → Except Int (Nat × List Nat)
  | _, _, [] => .error 6
  | n, j, c :: r =>
    if 4294967295 < n + c % 128 * 2 ^ (7 * j) + (if 128 ≤ c then 128 * 2 ^ (7 * j) else 0) ∨ (c = 0 ∧ 0 < j) then .error 8
    else if c < 128 then .ok (n + c % 128 * 2 ^ (7 * j), r)
    else sNumF (n + c % 128 * 2 ^ (7 * j)) (j + 1) r
def sNum (l : List Nat) : Except Int (Nat × List Nat) := sNumF 0 0 l
def sLow (k : Nat) (l : List Nat) : Except Int (Nat × List Nat) := if l.length < k then .error 6 else .ok (little (l.take k), l.drop k)
/-- so many bytes, each from so far back -/
def cpy (back : Nat) : Nat → List Nat → List Nat
  | 0, m => m
  | n + 1, m => cpy back n (m ++ [m.getD (m.length - back) 0])
def sCopy (size : Nat) (made : List Nat) (n back : Nat) : Except Int (List Nat) :=
  if back = 0 ∨ made.length < back then .error 8 else if size < made.length + n then .error 8 else .ok (cpy back n made)
def sBytes (size : Nat) (made l : List Nat) (n : Nat) : Except Int (List Nat × List Nat) :=
  if size < made.length + (n + 1) then .error 8 else if l.length < n + 1 then .error 6 else .ok (made ++ l.take (n + 1), l.drop (n + 1))
def sMore (size : Nat) (made : List Nat) (n : Nat) (r : List Nat) : Except Int (List Nat × List Nat) :=
  if n < 60 then sBytes size made r n
  else match sLow (n - 59) r with
    | .error e => .error e
    | .ok (m, r') => sBytes size made r' m
def sFrom (size : Nat) (made : List Nat) (k n far : Nat) (r : List Nat) : Except Int (List Nat × List Nat) :=
  match sLow k r with
  | .error e => .error e
  | .ok (c, r') => match sCopy size made n (far + c) with
    | .error e => .error e
    | .ok m => .ok (m, r')
def sPart (size : Nat) (made : List Nat) : List Nat → Except Int (List Nat × List Nat)
  | [] => .error 6
  | b :: r =>
    if b % 4 = 0 then sMore size made (b / 4) r
    else if b % 4 = 1 then sFrom size made 1 (b / 4 % 8 + 4) (b / 4 / 8 * 256) r
    else if b % 4 = 2 then sFrom size made 2 (b / 4 + 1) 0 r
    else sFrom size made 4 (b / 4 + 1) 0 r
def sParts (size : Nat) : Nat → List Nat → List Nat → Except Int (List Nat × List Nat)
  | 0, _, _ => .error 0
  | f + 1, made, l => if size ≤ made.length then .ok (made, l) else match sPart size made l with
    | .error e => .error e
    | .ok (m, l') => sParts size f m l'
/-- behind the last part nothing stands -/
def sEnd : Except Int (List Nat × List Nat) → Except Int (List Nat)
  | .error e => .error e
  | .ok (m, []) => .ok m
  | .ok (_, _ :: _) => .error 7
def sBlock (most : Nat) (l : List Nat) : Except Int (List Nat) :=
  match sNum l with
  | .error e => .error e
  | .ok (n, r) => if most < n then .error 3 else sEnd (sParts n (n + 1) [] r)

theorem cpy_len (back : Nat) : ∀ (n : Nat) (m : List Nat), (cpy back n m).length = m.length + n
  | 0, m => rfl
  | n + 1, m => by rw [cpy, cpy_len back n]; simp; omega
theorem cpy_pre (back : Nat) : ∀ (n : Nat) (m : List Nat), ∃ t, cpy back n m = m ++ t
  | 0, m => ⟨[], by simp [cpy]⟩
  | n + 1, m => by
    obtain ⟨t, ht⟩ := cpy_pre back n (m ++ [m.getD (m.length - back) 0])
    exact ⟨_, by rw [cpy, ht, List.append_assoc]⟩
/-- one more at the end -/
theorem cpy_succ (back : Nat) : ∀ (n : Nat) (m : List Nat), cpy back (n + 1) m = cpy back n m ++ [(cpy back n m).getD ((cpy back n m).length - back) 0]
  | 0, m => rfl
  | n + 1, m => by rw [cpy, cpy_succ back n (m ++ [m.getD (m.length - back) 0]), ← cpy]
theorem cpy_add (back : Nat) : ∀ (n k : Nat) (m : List Nat), cpy back (n + k) m = cpy back n (cpy back k m)
  | 0, k, m => by simp [cpy]
  | n + 1, k, m => by
    rw [show n + 1 + k = (n + k) + 1 by omega, cpy_succ, cpy_add back n k m, ← cpy_succ]

theorem sCopy_ok {size : Nat} {made m : List Nat} {n back : Nat} (h : sCopy size made n back = .ok m) : m.length = made.length + n ∧ m.length ≤ size := by
  unfold sCopy at h
  split at h
  · cases h
  split at h
  · cases h
  · cases h
    rw [cpy_len]
    omega
theorem sBytes_ok {size : Nat} {made l m r : List Nat} {n : Nat} (h : sBytes size made l n = .ok (m, r)) : m.length = made.length + (n + 1) ∧ m.length ≤ size ∧ r.length + (n + 1) = l.length := by
  unfold sBytes at h
  split at h
  · cases h
  split at h
  · cases h
  · cases h
    simp
    omega
theorem sLow_ok {k : Nat} {l r : List Nat} {n : Nat} (h : sLow k l = .ok (n, r)) : r = l.drop k ∧ n = little (l.take k) ∧ k ≤ l.length := by
  unfold sLow at h
  split at h
  · cases h
  · cases h
    exact ⟨rfl, rfl, by omega⟩
theorem sMore_ok {size : Nat} {made l m r : List Nat} {n : Nat} (h : sMore size made n l = .ok (m, r)) : made.length < m.length ∧ m.length ≤ size ∧ r.length ≤ l.length := by
  unfold sMore at h
  split at h
  · have := sBytes_ok h
    omega
  · split at h
    · cases h
    · rename_i m' r' hl
      have h1 := sBytes_ok h
      obtain ⟨rfl, _, h3⟩ := sLow_ok hl
      simp only [List.length_drop] at h1
      omega
theorem sFrom_ok {size : Nat} {made l m r : List Nat} {k n far : Nat} (hn : 1 ≤ n) (h : sFrom size made k n far l = .ok (m, r)) : made.length < m.length ∧ m.length ≤ size ∧ r.length ≤ l.length := by
  unfold sFrom at h
  split at h
  · cases h
  · rename_i c r' hl
    split at h
    · cases h
    · rename_i m' hc
      cases h
      have h1 := sCopy_ok hc
      obtain ⟨rfl, _, h3⟩ := sLow_ok hl
      simp
      omega
/-- a part makes at least one byte, and takes at least one -/
theorem sPart_ok {size : Nat} {made l m r : List Nat} (h : sPart size made l = .ok (m, r)) : made.length < m.length ∧ m.length ≤ size ∧ r.length < l.length := by
  cases l with
  | nil => cases h
  | cons b l =>
    simp only [sPart] at h
    have key : made.length < m.length ∧ m.length ≤ size ∧ r.length ≤ l.length := by
      split at h
      · exact sMore_ok h
      split at h
      · exact sFrom_ok (by omega) h
      split at h
      · exact sFrom_ok (by omega) h
      · exact sFrom_ok (by omega) h
    simp only [List.length_cons]
    omega
/-- more fuel than is needed changes nothing -/
theorem sParts_fuel {size : Nat} : ∀ (f g : Nat) (made l : List Nat), made.length ≤ size → size < made.length + f → size < made.length + g → sParts size f made l = sParts size g made l
  | 0, _, made, l, h0, h, _ => by omega
  | f + 1, 0, made, l, h0, _, h => by omega
  | f + 1, g + 1, made, l, h0, h1, h2 => by
    simp only [sParts]
    split
    · rfl
    · split
      · rfl
      · rename_i m l' hp
        have h3 := sPart_ok hp
        exact sParts_fuel f g m l' (by omega) (by omega) (by omega)
theorem little_lt : ∀ (l : List Nat), (∀ c ∈ l, c < 256) → little l < 256 ^ l.length
  | [], _ => by simp [little]
  | b :: r, h => by
    have h1 := little_lt r fun c hc => h c (List.mem_cons_of_mem _ hc)
    have h2 := h b (by simp)
    simp only [little, List.length_cons, Nat.pow_succ]
    omega
theorem little_snoc : ∀ (l : List Nat) (c : Nat), little (l ++ [c]) = little l + c * 256 ^ l.length
  | [], c => by simp [little]
  | b :: r, c => by
    simp only [List.cons_append, little, little_snoc r c, List.length_cons, Nat.pow_succ]
    rw [Nat.mul_add, ← Nat.add_assoc, Nat.mul_comm 256 (c * 256 ^ r.length), Nat.mul_assoc]
end Go.Proofs.Ytkkignjenjdjiaa
