/-
  Bits that are turned, as plain numbers: a byte's bit is turned in the number of all bytes; two numbers that part in at most 32 bits in a row have two sums. No Go.
-/
import Derived.Test.YtjncjfefploneabDoorOf
namespace Go.Proofs.YtjncjfefploneabDoor

theorem mul_xor (n a b : Nat) : 2 ^ n * (a ^^^ b) = 2 ^ n * a ^^^ 2 ^ n * b := by
  have h := Nat.shiftLeft_xor_distrib (a := a) (b := b) (i := n)
  rw [Nat.shiftLeft_eq, Nat.shiftLeft_eq, Nat.shiftLeft_eq] at h
  rw [Nat.mul_comm, h, Nat.mul_comm a, Nat.mul_comm b]
theorem cons_num (c : Nat) (l : List Nat) (hc : c < 256) : num8 (c :: l) = 2 ^ 8 * num8 l ^^^ c := by
  rw [join_xor 8 _ _ hc]
  simp [num8, Nat.add_comm]
theorem byte_xor {c q : Nat} (hc : c < 256) (hq : q < 8) : c ^^^ 2 ^ q < 256 := Nat.xor_lt_two_pow (n := 8) hc (Nat.pow_lt_pow_right (by omega) hq)

theorem num8_flip : ∀ (l : List Nat) (p q : Nat), B8 l → p < l.length → q < 8 → num8 (l.set p (l.getD p 0 ^^^ 2 ^ q)) = num8 l ^^^ 2 ^ (8 * p + q)
  | [], p, q, _, h, _ => by simp at h
  | c :: l, 0, q, hB, _, hq => by
    have hc := hB c List.mem_cons_self
    show num8 ((c ^^^ 2 ^ q) :: l) = _
    rw [cons_num _ _ (byte_xor hc hq), cons_num _ _ hc, Nat.xor_assoc, Nat.mul_zero, Nat.zero_add]
  | c :: l, p + 1, q, hB, hp, hq => by
    have hc := hB c List.mem_cons_self
    have ih := num8_flip l p q (fun d hd => hB d (List.mem_cons_of_mem _ hd)) (by simpa using hp) hq
    show num8 (c :: l.set p (l.getD p 0 ^^^ 2 ^ q)) = _
    rw [cons_num _ _ hc, ih, cons_num _ _ hc, mul_xor, ← Nat.pow_add, show 8 + (8 * p + q) = 8 * (p + 1) + q from by omega, Nat.xor_assoc, Nat.xor_assoc, Nat.xor_comm c]
theorem set_b8 {l : List Nat} (h : B8 l) (p x : Nat) (hx : x < 256) : B8 (l.set p x) := by
  intro c hc
  rcases List.mem_or_eq_of_mem_set hc with h1 | h1
  · exact h c h1
  · omega

/-- the bits that are turned, one more -/
theorem bits_next (B i : Nat) : B % 2 ^ (i + 1) = B % 2 ^ i ^^^ 2 ^ i * (B / 2 ^ i % 2) := by
  rw [Nat.xor_comm, join_xor i _ _ (Nat.mod_lt _ (Nat.two_pow_pos _)), Nat.pow_succ, Nat.mod_mul, Nat.add_comm]
theorem turn_yes {B i : Nat} (at' : Nat) (h : B / 2 ^ i % 2 = 1) : 2 ^ at' * (B % 2 ^ (i + 1)) = 2 ^ at' * (B % 2 ^ i) ^^^ 2 ^ (at' + i) := by
  rw [bits_next, h, Nat.mul_one, mul_xor, ← Nat.pow_add]
theorem turn_no {B i : Nat} (h : B / 2 ^ i % 2 = 0) : B % 2 ^ (i + 1) = B % 2 ^ i := by
  rw [bits_next, h, Nat.mul_zero, Nat.xor_zero]
theorem turn_ne {B i : Nat} (h : B / 2 ^ i % 2 = 1) : B % 2 ^ (i + 1) ≠ 0 := by
  rw [Nat.pow_succ, Nat.mod_mul, h]
  have := Nat.two_pow_pos i
  omega

/-- two rows of bytes that part in the bits E from the place 'at' on have one sum just if E is 0 -/
theorem turned_sum {l m : List Nat} {a E : Nat} (hl : B8 l) (hm : B8 m) (hlen : m.length = l.length) (ha : a ≤ 8 * l.length) (hE : E < 4294967296) (hn : num8 m = num8 l ^^^ 2 ^ a * E) :
    (upd 0 m = upd 0 l) ↔ E = 0 := by
  have e : stps (8 * l.length) (2 ^ a * E) = stps (8 * l.length - a) E := by
    rw [show 8 * l.length = a + (8 * l.length - a) from by omega, stps_add, stps_pow, show a + (8 * l.length - a) - a = 8 * l.length - a from by omega]
  have hu : upd 0 m = upd 0 l ^^^ stps (8 * l.length - a) E := by
    unfold upd
    rw [tks_num m _ hm, tks_num l _ hl, hlen, hn, ← Nat.xor_assoc, stps_xor, e]
    generalize stps (8 * l.length) (0 ^^^ 4294967295 ^^^ num8 l) = x
    generalize stps (8 * l.length - a) E = y
    rw [Nat.xor_assoc, Nat.xor_assoc, Nat.xor_comm y]
  rw [hu]
  constructor
  · intro h
    by_cases h0 : E = 0
    · exact h0
    · exfalso
      refine stps_ne (8 * l.length - a) hE h0 ?_
      have := congrArg (upd 0 l ^^^ ·) h
      simpa [← Nat.xor_assoc] using this
  · intro h
    subst h
    have : stps (8 * l.length - a) 0 = 0 := by
      generalize 8 * l.length - a = k
      induction k with
      | zero => rfl
      | succ k ih => exact ih
    rw [this, Nat.xor_zero]
end Go.Proofs.YtjncjfefploneabDoor
