/-
  What the writer lays makes the bytes again, and is not too long.
-/
import Derived.Test.YtkkignjenjdjiaaSqD
import Derived.Test.YtkkignjenjdjiaaSqC
namespace Go.Proofs.Ytkkignjenjdjiaa
set_option linter.unusedVariables false

/-- parts, one behind the other -/
def MakesIn (size : Nat) : Nat → List Nat → List Nat → List Nat → List Nat → Prop
  | 0, m, l, m2, l2 => m = m2 ∧ l = l2
  | n + 1, m, l, m2, l2 => ∃ m1 l1, m.length < size ∧ sPart size m l = .ok (m1, l1) ∧ MakesIn size n m1 l1 m2 l2
def Makes (size : Nat) (m l m2 l2 : List Nat) : Prop := ∃ n, MakesIn size n m l m2 l2
theorem Makes.refl {size : Nat} (m l : List Nat) : Makes size m l m l := ⟨0, rfl, rfl⟩
theorem Makes.step {size : Nat} {m l m1 l1 m2 l2 : List Nat} (h1 : m.length < size) (h2 : sPart size m l = .ok (m1, l1)) (h3 : Makes size m1 l1 m2 l2) : Makes size m l m2 l2 :=
  h3.elim fun n h => ⟨n + 1, m1, l1, h1, h2, h⟩
theorem MakesIn.trans {size : Nat} {m1 l1 m2 l2 : List Nat} (k : Makes size m1 l1 m2 l2) : ∀ (n : Nat) (m l : List Nat), MakesIn size n m l m1 l1 → Makes size m l m2 l2
  | 0, m, l, h => by
    obtain ⟨rfl, rfl⟩ := h
    exact k
  | n + 1, m, l, h => by
    obtain ⟨m3, l3, h1, h2, h3⟩ := h
    exact .step h1 h2 (MakesIn.trans k n m3 l3 h3)
theorem Makes.trans {size : Nat} {m l m1 l1 m2 l2 : List Nat} (h : Makes size m l m1 l1) (k : Makes size m1 l1 m2 l2) : Makes size m l m2 l2 :=
  h.elim fun n h => MakesIn.trans k n m l h
theorem MakesIn.parts {size : Nat} {m' l' : List Nat} (he : m'.length = size) : ∀ (n : Nat) (m l : List Nat), MakesIn size n m l m' l' → ∀ f, size < m.length + f → sParts size f m l = .ok (m', l')
  | 0, m, l, h => by
    obtain ⟨rfl, rfl⟩ := h
    intro f hf
    obtain ⟨g, rfl⟩ : ∃ g, f = g + 1 := ⟨f - 1, by omega⟩
    simp only [sParts]
    rw [if_pos (by omega)]
  | n + 1, m, l, h => by
    obtain ⟨m3, l3, h1, h2, h3⟩ := h
    intro f hf
    obtain ⟨g, rfl⟩ : ∃ g, f = g + 1 := ⟨f - 1, by omega⟩
    simp only [sParts]
    rw [if_neg (by omega), h2]
    have := sPart_ok h2
    exact MakesIn.parts he n m3 l3 h3 g (by omega)
theorem Makes.parts {size : Nat} {m l m' l' : List Nat} (h : Makes size m l m' l') (he : m'.length = size) : ∀ f, size < m.length + f → sParts size f m l = .ok (m', l') :=
  h.elim fun n h => MakesIn.parts he n m l h

/-- the bytes P make those of b from i to j -/
def Lays (b : List Nat) (i : Nat) (P : List Nat) (j : Nat) : Prop := i ≤ j ∧ j ≤ b.length ∧ ∀ r, Makes b.length (b.take i) (P ++ r) (b.take j) r
theorem Lays.trans {b P Q : List Nat} {i j k : Nat} (h : Lays b i P j) (h' : Lays b j Q k) : Lays b i (P ++ Q) k :=
  ⟨Nat.le_trans h.1 h'.1, h'.2.1, fun r => by rw [List.append_assoc]; exact (h.2.2 (Q ++ r)).trans (h'.2.2 r)⟩
theorem Lays.nil {b : List Nat} {i : Nat} (h : i ≤ b.length) : Lays b i [] i := ⟨Nat.le_refl _, h, fun r => .refl _ _⟩

theorem take_more (b : List Nat) (i k : Nat) : b.take i ++ (b.drop i).take k = b.take (i + k) := by rw [List.take_add]

theorem sBytes_lays {b l r : List Nat} {i n : Nat} (hl : l = (b.drop i).take (n + 1)) (hn : l.length = n + 1) (hj : i + (n + 1) ≤ b.length) : sBytes b.length (b.take i) (l ++ r) n = .ok (b.take (i + (n + 1)), r) := by
  have hi : (b.take i).length = i := by rw [List.length_take]; omega
  unfold sBytes
  have e1 : (l ++ r).take (n + 1) = l := by rw [← hn]; exact List.take_left
  have e2 : (l ++ r).drop (n + 1) = r := by rw [← hn]; exact List.drop_left
  rw [hi, if_neg (by omega), if_neg (by simp; omega), e1, e2, hl, take_more]

theorem lays_bytes (b : List Nat) (i k : Nat) (h : i + k ≤ b.length) (hb : b.length ≤ 1048576) : Lays b i (bytB ((b.drop i).take k)) (i + k) := by
  refine ⟨by omega, h, fun r => ?_⟩
  have hlen : ((b.drop i).take k).length = k := by rw [List.length_take, List.length_drop]; omega
  unfold bytB
  rw [hlen]
  by_cases h0 : k = 0
  · subst h0
    simp
    exact .refl _ _
  rw [if_neg h0]
  obtain ⟨n, rfl⟩ : ∃ n, k = n + 1 := ⟨k - 1, by omega⟩
  rw [Nat.add_sub_cancel]
  have hi : (b.take i).length = i := by rw [List.length_take]; omega
  have SB := fun r => sBytes_lays (b := b) (i := i) (r := r) rfl hlen h
  generalize (b.drop i).take (n + 1) = l at *
  refine .step (by rw [hi]; omega) ?_ (.refl _ _)
  by_cases c1 : n < 60
  · rw [if_pos c1]
    simp only [List.cons_append, List.nil_append, sPart]
    rw [if_pos (by omega)]
    unfold sMore
    rw [show n * 4 / 4 = n by omega, if_pos c1]
    exact SB r
  rw [if_neg c1]
  by_cases c2 : n < 256
  · rw [if_pos c2]
    have e : sLow (60 - 59) (n :: (l ++ r)) = .ok (n, l ++ r) := by simp [sLow, little]
    rw [show sPart b.length (b.take i) ([240, n] ++ l ++ r) = sMore b.length (b.take i) 60 (n :: (l ++ r)) from by simp [sPart]]
    unfold sMore
    rw [if_neg (show ¬ 60 < 60 by omega), e]
    exact SB r
  rw [if_neg c2]
  by_cases c3 : n < 65536
  · rw [if_pos c3]
    have e : sLow (61 - 59) (n % 256 :: n / 256 :: (l ++ r)) = .ok (n, l ++ r) := by
      unfold sLow
      rw [if_neg (by simp)]
      show Except.ok (n % 256 + 256 * (n / 256 + 256 * 0), l ++ r) = _
      congr 2
      omega
    rw [show sPart b.length (b.take i) ([244, n % 256, n / 256] ++ l ++ r) = sMore b.length (b.take i) 61 (n % 256 :: n / 256 :: (l ++ r)) from by simp [sPart]]
    unfold sMore
    rw [if_neg (show ¬ 61 < 60 by omega), e]
    exact SB r
  · rw [if_neg c3]
    have e : sLow (62 - 59) (n % 256 :: n / 256 % 256 :: n / 65536 :: (l ++ r)) = .ok (n, l ++ r) := by
      unfold sLow
      rw [if_neg (by simp)]
      show Except.ok (n % 256 + 256 * (n / 256 % 256 + 256 * (n / 65536 + 256 * 0)), l ++ r) = _
      congr 2
      omega
    rw [show sPart b.length (b.take i) ([248, n % 256, n / 256 % 256, n / 65536] ++ l ++ r) = sMore b.length (b.take i) 62 (n % 256 :: n / 256 % 256 :: n / 65536 :: (l ++ r)) from by simp [sPart]]
    unfold sMore
    rw [if_neg (show ¬ 62 < 60 by omega), e]
    exact SB r

theorem cpy_take (b : List Nat) (back i : Nat) (h1 : 1 ≤ back) (h2 : back ≤ i) : ∀ (s : Nat), i + s ≤ b.length → (∀ k, k < s → b.getD (i + k) 0 = b.getD (i + k - back) 0) → cpy back s (b.take i) = b.take (i + s)
  | 0, _, _ => by simp [cpy]
  | s + 1, h, ha => by
    rw [cpy_succ, cpy_take b back i h1 h2 s (by omega) (fun k hk => ha k (by omega))]
    have hl : (b.take (i + s)).length = i + s := by rw [List.length_take]; omega
    rw [hl, show i + (s + 1) = (i + s) + 1 by omega, take_succ_getD b (i + s) (by omega), ha s (by omega)]
    congr 2
    simp only [List.getD, List.getElem?_take]
    rw [if_pos (by omega)]

theorem sCopy_lays {b : List Nat} {i s back : Nat} (h1 : 1 ≤ back) (h2 : back ≤ i) (h3 : i + s ≤ b.length) (ha : ∀ k, k < s → b.getD (i + k) 0 = b.getD (i + k - back) 0) : sCopy b.length (b.take i) s back = .ok (b.take (i + s)) := by
  have hi : (b.take i).length = i := by rw [List.length_take]; omega
  unfold sCopy
  rw [hi, if_neg (by omega), if_neg (by omega), cpy_take b back i h1 h2 s h3 ha]

theorem lays_copy {b : List Nat} {i s back : Nat} (hs : 4 ≤ s) (hs6 : s ≤ 64) (h1 : 1 ≤ back) (h2 : back ≤ i) (h3 : i + s ≤ b.length) (hb : b.length ≤ 1048576) (ha : ∀ k, k < s → b.getD (i + k) 0 = b.getD (i + k - back) 0) : Lays b i (copyB s back) (i + s) := by
  refine ⟨by omega, h3, fun r => ?_⟩
  have hi : (b.take i).length = i := by rw [List.length_take]; omega
  have SC := sCopy_lays h1 h2 h3 ha
  refine .step (by rw [hi]; omega) ?_ (.refl _ _)
  unfold copyB
  by_cases c1 : s < 12 ∧ back < 2048
  · rw [if_pos c1]
    simp only [List.cons_append, List.nil_append, sPart]
    rw [if_neg (by omega), if_pos (by omega)]
    unfold sFrom sLow
    rw [if_neg (by simp)]
    simp only [List.take_succ_cons, List.take_zero, List.drop_succ_cons, List.drop_zero, little, Nat.mul_zero, Nat.add_zero]
    rw [show ((back / 256 * 8 + s - 4) * 4 + 1) / 4 % 8 + 4 = s by omega, show ((back / 256 * 8 + s - 4) * 4 + 1) / 4 / 8 * 256 + back % 256 = back by omega, SC]
  rw [if_neg c1]
  by_cases c2 : back < 65536
  · rw [if_pos c2]
    simp only [List.cons_append, List.nil_append, sPart]
    rw [if_neg (by omega), if_neg (by omega), if_pos (by omega)]
    unfold sFrom sLow
    rw [if_neg (by simp)]
    simp only [List.take_succ_cons, List.take_zero, List.drop_succ_cons, List.drop_zero, little, Nat.mul_zero, Nat.add_zero, Nat.zero_add]
    rw [show ((s - 1) * 4 + 2) / 4 + 1 = s by omega, show back % 256 + 256 * (back / 256) = back by omega, SC]
  · rw [if_neg c2]
    simp only [List.cons_append, List.nil_append, sPart]
    rw [if_neg (by omega), if_neg (by omega), if_neg (by omega)]
    unfold sFrom sLow
    rw [if_neg (by simp)]
    simp only [List.take_succ_cons, List.take_zero, List.drop_succ_cons, List.drop_zero, little, Nat.mul_zero, Nat.add_zero, Nat.zero_add]
    rw [show ((s - 1) * 4 + 3) / 4 + 1 = s by omega, show back % 256 + 256 * (back / 256 % 256 + 256 * (back / 65536)) = back by omega, SC]

theorem lays_copies {b : List Nat} {back : Nat} (h1 : 1 ≤ back) (hb : b.length ≤ 1048576) : ∀ (n s i : Nat), s ≤ n → Fine s → back ≤ i → i + s ≤ b.length → (∀ k, k < s → b.getD (i + k) 0 = b.getD (i + k - back) 0) → Lays b i (copB s back) (i + s)
  | 0, s, i, hn, hf, h2, h3, ha => by
    obtain rfl : s = 0 := by omega
    rw [copB_eq, if_pos rfl]
    exact Lays.nil (by omega)
  | n + 1, s, i, hn, hf, h2, h3, ha => by
    by_cases hz : s = 0
    · subst hz
      rw [copB_eq, if_pos rfl]
      exact Lays.nil (by omega)
    · have h4 : 4 ≤ s := by rcases hf with h | h <;> omega
      obtain ⟨f1, f2⟩ := Fine.next h4
      have hfl := fstN_le s
      rw [copB_eq, if_neg hz]
      have e : i + s = (i + fstN s) + (s - fstN s) := by omega
      rw [e]
      refine (lays_copy f2 hfl.2.1 h1 h2 (by omega) hb (fun k hk => ha k (by omega))).trans (lays_copies h1 hb n (s - fstN s) (i + fstN s) (by omega) f1 (by omega) (by omega) fun k hk => ?_)
      have := ha (fstN s + k) (by omega)
      rw [← Nat.add_assoc] at this
      exact this

theorem copB_mid {back : Nat} (hb : back < 65536) : ∀ (n s : Nat), s ≤ n → Fine s → 4 * (copB s back).length ≤ 3 * s
  | 0, s, hn, hf => by
    obtain rfl : s = 0 := by omega
    rw [copB_eq, if_pos rfl]; simp
  | n + 1, s, hn, hf => by
    by_cases hz : s = 0
    · subst hz; rw [copB_eq, if_pos rfl]; simp
    · have h4 : 4 ≤ s := by rcases hf with h | h <;> omega
      obtain ⟨f1, f2⟩ := Fine.next h4
      have hfl := fstN_le s
      have ih := copB_mid hb n (s - fstN s) (by omega) f1
      have hc : (copyB (fstN s) back).length ≤ 3 := by
        unfold copyB
        by_cases hq : fstN s < 12 ∧ back < 2048
        · rw [if_pos hq]; simp
        · rw [if_neg hq, if_pos hb]; simp
      rw [copB_eq, if_neg hz, List.length_append]
      omega
theorem copB_far {back : Nat} : ∀ (n s : Nat), s ≤ n → 4 ≤ s → (copB s back).length ≤ s + 1
  | 0, s, hn, h4 => by omega
  | n + 1, s, hn, h4 => by
    have hc := (copyB_len (fstN s) back).2
    obtain ⟨f1, f2⟩ := Fine.next h4
    rw [copB_eq, if_neg (by omega), List.length_append]
    by_cases hz : s - fstN s = 0
    · rw [hz, copB_eq, if_pos rfl]
      simp
      omega
    · have h4' : 4 ≤ s - fstN s := by rcases f1 with h | h <;> omega
      have ih := copB_far (back := back) n (s - fstN s) (by omega) h4'
      have hf : 60 ≤ fstN s := by
        unfold fstN at hz ⊢
        split
        · omega
        · split
          · rename_i h1 h2
            rw [if_neg h1, if_pos h2] at hz
            omega
          · omega
      omega
/-- a copy that pays has fewer bytes than it makes -/
theorem copB_pays {s back : Nat} (h : (back < 65536 ∧ 4 ≤ s) ∨ 5 < s) : (copB s back).length + 1 ≤ s := by
  rcases h with ⟨h1, h2⟩ | h
  · have := copB_mid h1 s s (Nat.le_refl _) (.inr h2)
    omega
  · have hc := (copyB_len (fstN s) back).2
    obtain ⟨f1, f2⟩ := Fine.next (show 4 ≤ s by omega)
    rw [copB_eq, if_neg (by omega), List.length_append]
    by_cases hz : s - fstN s = 0
    · rw [hz, copB_eq, if_pos rfl]
      simp
      omega
    · have h4' : 4 ≤ s - fstN s := by rcases f1 with h | h <;> omega
      have ih := copB_far (back := back) (s - fstN s) (s - fstN s) (Nat.le_refl _) h4'
      have hf : 60 ≤ fstN s := by
        unfold fstN at hz ⊢
        split
        · omega
        · split
          · rename_i h1 h2
            rw [if_neg h1, if_pos h2] at hz
            omega
          · omega
      omega
theorem bytB_len (l : List Nat) : 61 * (bytB l).length ≤ 62 * l.length + 61 := by
  unfold bytB
  by_cases h0 : l.length = 0
  · rw [if_pos h0]; simp
  rw [if_neg h0, List.length_append]
  by_cases c1 : l.length - 1 < 60
  · rw [if_pos c1]; simp; omega
  rw [if_neg c1]
  by_cases c2 : l.length - 1 < 256
  · rw [if_pos c2]; simp; omega
  rw [if_neg c2]
  by_cases c3 : l.length - 1 < 65536
  · rw [if_pos c3]; simp; omega
  · rw [if_neg c3]; simp; omega
theorem sNumF_step {n j c : Nat} {r : List Nat} (h1 : ¬ (4294967295 < n + c % 128 * 2 ^ (7 * j) + (if 128 ≤ c then 128 * 2 ^ (7 * j) else 0) ∨ (c = 0 ∧ 0 < j))) :
    sNumF n j (c :: r) = if c < 128 then .ok (n + c % 128 * 2 ^ (7 * j), r) else sNumF (n + c % 128 * 2 ^ (7 * j)) (j + 1) r := by
  simp only [sNumF]
  rw [if_neg h1]
/-- a number is read as it was laid -/
theorem numB_back (n : Nat) (hn : n ≤ 1048576) (r : List Nat) : sNum (numB n ++ r) = .ok (n, r) := by
  unfold sNum
  rw [numB_eq]
  by_cases h1 : n < 128
  · rw [if_pos h1, List.cons_append, List.nil_append, sNumF_step (by rw [if_neg (by omega)]; omega), if_pos h1]
    congr 2
    omega
  rw [if_neg h1, List.cons_append, sNumF_step (by rw [if_pos (by omega)]; omega), if_neg (by omega), numB_eq]
  by_cases h2 : n / 128 < 128
  · rw [if_pos h2, List.cons_append, List.nil_append, sNumF_step (by rw [if_neg (by omega)]; omega), if_pos h2]
    congr 2
    omega
  rw [if_neg h2, List.cons_append, sNumF_step (by rw [if_pos (by omega)]; omega), if_neg (by omega), numB_eq]
  rw [if_pos (by omega), List.cons_append, List.nil_append, sNumF_step (by rw [if_neg (by omega)]; omega), if_pos (by omega)]
  congr 2
  omega
theorem numB_b8 : ∀ (k n : Nat), n < 128 ^ (k + 1) → ∀ c ∈ numB n, c < 256
  | 0, n, h => by
    intro c hc
    rw [numB_eq, if_pos (by simpa using h)] at hc
    simp at hc
    simp at h
    omega
  | k + 1, n, h => by
    intro c hc
    rw [numB_eq] at hc
    split at hc
    · simp at hc
      omega
    · rcases List.mem_cons.1 hc with h1 | h1
      · omega
      · exact numB_b8 k (n / 128) (by rw [Nat.div_lt_iff_lt_mul (by omega)]; rw [Nat.pow_succ] at h; exact h) c h1
end Go.Proofs.Ytkkignjenjdjiaa
