/-
  Real numbers by their words: what two words say of one another, as whole numbers; a word of 32 bits made one of 64.
-/
import GoSem.Core.Float
namespace Go.Proofs.Ytndeglamnnipoaa
set_option linter.unusedVariables false

/-- more than any number that has an end -/
def bigK : Nat := 3000
def big : Nat := 2 ^ bigK
theorem big_pos : (0 : Int) < (big : Int) := Int.ofNat_lt.2 (Nat.two_pow_pos bigK)
/-- what a datum that is a number stands for, in units of 2 ^ -1074; the two that have no end lie behind all others -/
def fv : Ieee.Datum → Int
  | .number s m i => Ieee.signed s m (i + 1074).toNat
  | .infinity s => if s = true then -(big : Int) else (big : Int)
  | .nan _ _ => 0

theorem signed_mul (s : Bool) (m a c : Nat) : Ieee.signed s m (a + c) = Ieee.signed s m a * (2 ^ c : Nat) := by
  have h : m <<< (a + c) = m <<< a * 2 ^ c := by
    rw [Nat.shiftLeft_eq, Nat.shiftLeft_eq, Nat.pow_add, Nat.mul_assoc]
  unfold Ieee.signed
  rw [h]
  split
  · rw [Int.natCast_mul, Int.neg_mul]
  · rw [Int.natCast_mul]
theorem signed_le (s : Bool) (m a : Nat) (hm : m < 2 ^ 53) (ha : a ≤ 2046) : -(big : Int) < Ieee.signed s m a ∧ Ieee.signed s m a < (big : Int) := by
  have h : m <<< a < big := by
    rw [Nat.shiftLeft_eq]
    have h1 : m * 2 ^ a < 2 ^ 53 * 2 ^ a := Nat.mul_lt_mul_of_pos_right hm (Nat.two_pow_pos _)
    rw [← Nat.pow_add] at h1
    exact Nat.lt_of_lt_of_le h1 (Nat.pow_le_pow_right (by omega) (by unfold bigK; omega))
  have h2 : ((m <<< a : Nat) : Int) < (big : Int) := Int.ofNat_lt.2 h
  have h3 : (0 : Int) ≤ ((m <<< a : Nat) : Int) := Int.natCast_nonneg _
  have h4 := big_pos
  unfold Ieee.signed
  generalize (big : Int) = B at *
  generalize ((m <<< a : Nat) : Int) = M at *
  split <;> omega
theorem compare_mul (x y : Int) (c : Nat) (h : 0 < c) : compare (x * (c : Int)) (y * (c : Int)) = compare x y := by
  have hc : (0 : Int) < (c : Int) := by omega
  have h1 : (x * (c : Int) < y * (c : Int)) = (x < y) := propext ⟨fun h' => Int.lt_of_mul_lt_mul_right h' (Int.le_of_lt hc), fun h' => Int.mul_lt_mul_of_pos_right h' hc⟩
  have h2 : (x * (c : Int) = y * (c : Int)) = (x = y) := propext ⟨fun h' => Int.eq_of_mul_eq_mul_right (Int.ne_of_gt hc) h', fun h' => by rw [h']⟩
  show compareOfLessAndEq _ _ = compareOfLessAndEq _ _
  simp only [compareOfLessAndEq, h1, h2]
theorem cmp_lt {x y : Int} (h : x < y) : compare x y = .lt := by show compareOfLessAndEq _ _ = _; simp [compareOfLessAndEq, h]
theorem cmp_gt {x y : Int} (h : y < x) : compare x y = .gt := by
  have h1 : ¬ x < y := by omega
  have h2 : ¬ x = y := by omega
  show compareOfLessAndEq _ _ = _
  simp [compareOfLessAndEq, h1, h2]
theorem cmp_eq (x : Int) : compare x x = .eq := by show compareOfLessAndEq _ _ = _; simp [compareOfLessAndEq]
theorem cmp_cases (x y : Int) : (x < y ∧ compare x y = .lt) ∨ (x = y ∧ compare x y = .eq) ∨ (y < x ∧ compare x y = .gt) := by
  rcases Int.lt_trichotomy x y with h | h | h
  · exact .inl ⟨h, cmp_lt h⟩
  · exact .inr (.inl ⟨h, by rw [h]; exact cmp_eq _⟩)
  · exact .inr (.inr ⟨h, cmp_gt h⟩)

/-- a datum as a word of 64 bits may have it -/
def Fits64 : Ieee.Datum → Prop
  | .number _ m i => m < 2 ^ 53 ∧ -1074 ≤ i ∧ i ≤ 972
  | _ => True
theorem read_fits (x : Nat) : Fits64 (Ieee.double.read x) := by
  unfold Ieee.Format.read
  dsimp only
  have hb : Ieee.double.binade = 2 ^ 52 := by decide +kernel
  have hp : Ieee.double.leastPlace = -1074 := by decide +kernel
  have hi : Ieee.double.infRung = 2047 * 2 ^ 52 := by decide +kernel
  rw [hb, hp, hi]
  generalize x % Ieee.double.signWeight = r
  split
  · rename_i h
    exact ⟨by omega, by omega, by omega⟩
  split
  · rename_i h1 h2
    refine ⟨by omega, by omega, ?_⟩
    have : r / 2 ^ 52 < 2047 := Nat.div_lt_of_lt_mul (by omega)
    omega
  split <;> trivial

theorem order_fv (d e : Ieee.Datum) (hd : Fits64 d) (he : Fits64 e) (nd : d.isNaN = false) (ne : e.isNaN = false) : d.order e = some (compare (fv d) (fv e)) := by
  have hB := big_pos
  cases d with
  | nan s t => simp [Ieee.Datum.isNaN] at nd
  | infinity s =>
    cases e with
    | nan s t => simp [Ieee.Datum.isNaN] at ne
    | infinity t =>
      show some (compare t.toNat s.toNat) = _
      cases s <;> cases t <;> simp only [fv]
      · simp only [Bool.false_eq_true, if_false]; rw [cmp_eq]; rfl
      · simp only [Bool.false_eq_true, if_false, if_true]; rw [cmp_gt (by generalize (big : Int) = B at *; omega)]; rfl
      · simp only [Bool.false_eq_true, if_false, if_true]; rw [cmp_lt (by generalize (big : Int) = B at *; omega)]; rfl
      · simp only [if_true]; rw [cmp_eq]; rfl
    | number t n j =>
      obtain ⟨h1, h2, h3⟩ := he
      have hb := signed_le t n (j + 1074).toNat h1 (by omega)
      show some (if s = true then Ordering.lt else .gt) = _
      simp only [fv]
      cases s
      · simp only [Bool.false_eq_true, if_false]; rw [cmp_gt hb.2]
      · simp only [if_true]; rw [cmp_lt hb.1]
  | number s m i =>
    obtain ⟨h1, h2, h3⟩ := hd
    have hb := signed_le s m (i + 1074).toNat h1 (by omega)
    cases e with
    | nan s t => simp [Ieee.Datum.isNaN] at ne
    | infinity t =>
      show some (if t = true then Ordering.gt else .lt) = _
      simp only [fv]
      cases t
      · simp only [Bool.false_eq_true, if_false]; rw [cmp_lt hb.2]
      · simp only [if_true]; rw [cmp_gt hb.1]
    | number t n j =>
      obtain ⟨k1, k2, k3⟩ := he
      show some (compare (Ieee.signed s m (i - min i j).toNat) (Ieee.signed t n (j - min i j).toNat)) = _
      simp only [fv]
      have e1 : (i + 1074).toNat = (i - min i j).toNat + (min i j + 1074).toNat := by omega
      have e2 : (j + 1074).toNat = (j - min i j).toNat + (min i j + 1074).toNat := by omega
      rw [e1, e2, signed_mul, signed_mul, compare_mul _ _ _ (Nat.two_pow_pos _)]

/-- what a word of 64 bits stands for -/
def V (x : Nat) : Int := fv (Ieee.double.read x)
/-- is a word of 64 bits that of no number? -/
def nan64 (x : Nat) : Bool := (Ieee.double.read x).isNaN
theorem order_V {x y : Nat} (hx : nan64 x = false) (hy : nan64 y = false) : Ieee.double.order x y = some (compare (V x) (V y)) :=
  order_fv _ _ (read_fits x) (read_fits y) hx hy
theorem order_nan {x y : Nat} (h : nan64 x = true ∨ nan64 y = true) : Ieee.double.order x y = none := by
  unfold Ieee.Format.order
  unfold nan64 at h
  generalize Ieee.double.read x = d at *
  generalize Ieee.double.read y = e at *
  rcases h with h | h
  · cases d <;> simp [Ieee.Datum.isNaN] at h
    cases e <;> rfl
  · cases e <;> simp [Ieee.Datum.isNaN] at h
    cases d <;> rfl

/-- is a word of 32 bits that of no number? -/
def nan32 (x : Nat) : Bool := (Ieee.single.read x).isNaN
/-- a word of 32 bits as one of 64 -/
def cv (x : Nat) : Nat := Ieee.double.write (Ieee.single.read x)
theorem read32 (x : Nat) : ∀ s m i, Ieee.single.read x = .number s m i → m < 2 ^ 24 ∧ -149 ≤ i ∧ i ≤ 105 := by
  intro s m i h
  unfold Ieee.Format.read at h
  dsimp only at h
  have hb : Ieee.single.binade = 2 ^ 23 := by decide +kernel
  have hp : Ieee.single.leastPlace = -149 := by decide +kernel
  have hi : Ieee.single.infRung = 255 * 2 ^ 23 := by decide +kernel
  rw [hb, hp, hi] at h
  generalize x % Ieee.single.signWeight = r at *
  split at h
  · injection h with a b c
    omega
  split at h
  · injection h with a b c
    have : r / 2 ^ 23 < 255 := Nat.div_lt_of_lt_mul (by omega)
    omega
  split at h <;> cases h
theorem cut_zero (w : Ieee.Toward) (neg : Bool) (n : Nat) : Ieee.Toward.even.cut neg n 0 = n := by
  unfold Ieee.Toward.cut
  simp [Nat.mod_one]
/-- a word of 64 bits whose rung is below that of what has no end -/
theorem read_word (s : Bool) (r : Nat) (h : r < Ieee.double.infRung) : ∃ m i, Ieee.double.read (Ieee.double.word s r) = .number s m i := by
  have hs : Ieee.double.signWeight = 2 ^ 63 := by decide +kernel
  have hi : Ieee.double.infRung = 2047 * 2 ^ 52 := by decide +kernel
  have hr : r < 2 ^ 63 := by rw [hi] at h; omega
  have e1 : Ieee.double.word s r % Ieee.double.signWeight = r := by
    unfold Ieee.Format.word
    rw [hs]
    split
    · rw [Nat.add_mod_left]; exact Nat.mod_eq_of_lt hr
    · exact Nat.mod_eq_of_lt hr
  have e2 : (Ieee.double.word s r / Ieee.double.signWeight % 2 == 1) = s := by
    unfold Ieee.Format.word
    rw [hs]
    cases s
    · simp only [Bool.false_eq_true, if_false]; rw [Nat.div_eq_of_lt hr]; rfl
    · simp only [if_true]; rw [Nat.add_div_left _ (Nat.two_pow_pos _), Nat.div_eq_of_lt hr]; rfl
  unfold Ieee.Format.read
  dsimp only
  rw [e1, e2]
  split
  · exact ⟨_, _, rfl⟩
  · first | exact ⟨_, _, rfl⟩ | (rw [if_pos h]; exact ⟨_, _, rfl⟩)
theorem fin_le (a k : Nat) (h1 : a ≤ 1151) (h2 : k < 2 ^ 53) : min (a * 2 ^ 52 + k) (2047 * 2 ^ 52) < 2047 * 2 ^ 52 := by omega
theorem cv_number {x : Nat} {s : Bool} {m : Nat} {i : Int} (h : Ieee.single.read x = .number s m i) : ∃ m' i', Ieee.double.read (cv x) = .number s m' i' := by
  obtain ⟨hm, h1, h2⟩ := read32 x s m i h
  unfold cv
  rw [h]
  show ∃ m' i', Ieee.double.read (Ieee.double.nearest s m i) = _
  unfold Ieee.Format.nearest
  have hi : Ieee.double.infRung = 2047 * 2 ^ 52 := by decide +kernel
  by_cases h0 : m = 0
  · rw [if_pos h0]
    exact read_word s 0 (by rw [hi]; omega)
  · rw [if_neg h0]
    dsimp only
    have hl : m.log2 < 24 := (Nat.log2_lt h0).2 hm
    have hp : Ieee.double.leastPlace = -1074 := by decide +kernel
    have hf : Ieee.double.fractionBits = 52 := rfl
    have hb : Ieee.double.binade = 2 ^ 52 := by decide +kernel
    rw [hp, hf, hb]
    have hmax : max (i + (m.log2 : Int) - (52 : Nat)) (-1074) = i + (m.log2 : Int) - 52 := by omega
    rw [hmax]
    have e1 : (i - (i + (m.log2 : Int) - 52)).toNat = 52 - m.log2 := by omega
    have e2 : (i + (m.log2 : Int) - 52 - i).toNat = 0 := by omega
    rw [e1, e2, cut_zero .even]
    have hk : m <<< (52 - m.log2) < 2 ^ 53 := by
      rw [Nat.shiftLeft_eq]
      have h3 : m < 2 ^ (m.log2 + 1) := Nat.lt_log2_self
      have h4 : m * 2 ^ (52 - m.log2) < 2 ^ (m.log2 + 1) * 2 ^ (52 - m.log2) := Nat.mul_lt_mul_of_pos_right h3 (Nat.two_pow_pos _)
      rw [← Nat.pow_add] at h4
      have h5 : m.log2 + 1 + (52 - m.log2) = 53 := by omega
      rwa [h5] at h4
    refine read_word s _ ?_
    rw [hi]
    exact fin_le _ _ (by omega) hk
theorem cv_infinity {x : Nat} {s : Bool} (h : Ieee.single.read x = .infinity s) : Ieee.double.read (cv x) = .infinity s := by
  unfold cv
  rw [h]
  cases s <;> decide +kernel
theorem cv_nan {x : Nat} (h : nan32 x = false) : nan64 (cv x) = false := by
  unfold nan64
  unfold nan32 at h
  cases hd : Ieee.single.read x with
  | nan s t => rw [hd] at h; simp [Ieee.Datum.isNaN] at h
  | infinity s => rw [cv_infinity hd]; rfl
  | number s m i => obtain ⟨m', i', e⟩ := cv_number hd; rw [e]; rfl
/-- a word that the model may answer where no number is made one of 64 bits -/
theorem nan_word (t : Nat) : nan64 ((t % 2) * 2 ^ 63 + 0x7ff0000000000000 + 1 + (t / 2) % (2 ^ 52 - 1)) = true := by
  unfold nan64 Ieee.Format.read
  dsimp only
  have hs : Ieee.double.signWeight = 2 ^ 63 := by decide +kernel
  have hb : Ieee.double.binade = 2 ^ 52 := by decide +kernel
  have hi : Ieee.double.infRung = 2047 * 2 ^ 52 := by decide +kernel
  rw [hs, hb, hi]
  have h1 : (t / 2) % (2 ^ 52 - 1) < 2 ^ 52 - 1 := Nat.mod_lt _ (by decide)
  have h2 : t % 2 < 2 := Nat.mod_lt _ (by decide)
  generalize (t / 2) % (2 ^ 52 - 1) = u at *
  generalize t % 2 = v at *
  have e : (v * 2 ^ 63 + 0x7ff0000000000000 + 1 + u) % 2 ^ 63 = 0x7ff0000000000000 + 1 + u := by omega
  rw [e, if_neg (by omega), if_neg (by omega), if_neg (by omega)]
  rfl
end Go.Proofs.Ytndeglamnnipoaa
