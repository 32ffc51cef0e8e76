/-
  What the reference's Bit and Unpack answer.
-/
import Derived.Test.YtignjhmbajiphaaBRPack
import Derived.Maps.AppendAt
namespace Go.Proofs.Ytignjhmbajiphaa
open Go.ChangeShapes Go.WideShapes Go.ChangeAt Go.RowKit

/-- the bytes of the number B can be read off the slice -/
def NumAt (w : World) (ad : Option Addr) (len B : Nat) : Prop :=
  ∀ j, j < len → ∃ g off, ad = some ⟨g, off, none⟩ ∧ w.cell? ⟨g, off + j, none⟩ = some (.int .u8 ((B / 2 ^ (8 * j) % 256 : Nat) : Int))
theorem NumAt.later {w w' : World} {ad : Option Addr} {len B : Nat} (h : NumAt w ad len B) (hb : Below w.heap.size w w') : NumAt w' ad len B := by
  intro j hj
  obtain ⟨g, off, e, hc⟩ := h j hj
  exact ⟨g, off, e, cell_later hb hc⟩

theorem byte_shift (B j k : Nat) (hk : k < 8) : B / 2 ^ (8 * j) % 256 / 2 ^ k % 2 = B / 2 ^ (8 * j + k) % 2 := by
  have e2 : 256 = 2 ^ k * 2 ^ (8 - k) := by rw [← Nat.pow_add, show k + (8 - k) = 8 from by omega]
  rw [e2, Nat.mod_mul_right_div_self, bit_shift]
  exact Nat.mod_mod_of_dvd _ ⟨2 ^ (8 - k - 1), by rw [← Nat.pow_succ', show (8 - k - 1).succ = 8 - k from by omega]⟩

theorem high_bits {B T : Nat} : ∀ (k : Nat), B < 2 ^ (T + k) → (∀ i, T ≤ i → i < T + k → B / 2 ^ i % 2 = 0) → B < 2 ^ T
  | 0, h, _ => h
  | k + 1, h, hz => by
    refine high_bits k ?_ (fun i h1 h2 => hz i h1 (by omega))
    have h0 := hz (T + k) (by omega) (by omega)
    have h1 : B / 2 ^ (T + k) < 2 := by
      rw [Nat.div_lt_iff_lt_mul (Nat.two_pow_pos _), ← Nat.pow_succ']
      exact h
    have h2 : B / 2 ^ (T + k) = 0 := by
      generalize B / 2 ^ (T + k) = q at h0 h1
      omega
    exact (Nat.div_eq_zero_iff_lt (Nat.two_pow_pos _)).1 h2
theorem low_bits {B T i : Nat} (h : B < 2 ^ T) (hi : T ≤ i) : B / 2 ^ i % 2 = 0 := by
  rw [Nat.div_eq_of_lt (Nat.lt_of_lt_of_le h (Nat.pow_le_pow_right (by omega) hi))]

def c64 (l : List Nat) : List Value := l.map fun b : Nat => Value.int .u64 (b : Int)
theorem Try.info39 : (Try.prog.info? 39).map (fun i => (i.zero, i.size, i.bytes)) = some (some (.int .u64 0), 1, 8) := by kernel_rfl

theorem mod_two (n m : Nat) : n % 2 ^ (m + 1) = 2 * (n / 2 % 2 ^ m) + n % 2 := by
  rw [Nat.pow_succ', Nat.mod_mul]
  omega
theorem run_step {W w64 : Nat} {v v' : Value} {i : Nat} {x : Nat} {w wr w1 : World} (hx : x = w64 / 2 ^ (W * i) % 2 ^ W) (hs : w.heap.size ≤ wr.heap.size)
    (hown : wr.ownsRow w.heap.size 39 1 v i (c64 (upk W i w64))) (hnx : Below w.heap.size w wr)
    (hown' : w1.ownsRow w.heap.size 39 1 v' (i + 1) (c64 (upk W i w64) ++ [.int .u64 (x : Int)])) (hgrow : (wr.alloc (.cells #[.int .u64 (x : Int)] 39)).grownBy w1 v.ownBlock) :
    w1.ownsRow w.heap.size 39 1 v' (i + 1) (c64 (upk W (i + 1) w64)) ∧ Below w.heap.size w w1 := by
  refine ⟨?_, (hnx.alloc hs _).grown hgrow (by simp; omega) (fun k e => (hown.lt k e).1)⟩
  rw [upk_snoc, ← hx]
  simpa [c64] using hown'

theorem unp_step {B Q m W : Nat} {x : Int} (hW : W ≤ 64) (hm : m + 1 ≤ W) (hx : x = ((B / 2 ^ (Q + (m + 1)) % 2 ^ (W - (m + 1)) : Nat) : Int)) :
    0 ≤ x ∧ x ≤ 9223372036854775807 ∧ 2 * x + ((B / 2 ^ (Q + m) % 2 : Nat) : Int) = ((B / 2 ^ (Q + m) % 2 ^ (W - m) : Nat) : Int) ∧ 0 ≤ ((B / 2 ^ (Q + m) % 2 : Nat) : Int) ∧ ((B / 2 ^ (Q + m) % 2 : Nat) : Int) ≤ 1 := by
  have h2 : B / 2 ^ (Q + (m + 1)) % 2 ^ (W - (m + 1)) < 2 ^ (W - (m + 1)) := Nat.mod_lt _ (Nat.two_pow_pos _)
  have h3 : 2 ^ (W - (m + 1)) ≤ 2 ^ 63 := Nat.pow_le_pow_right (by omega) (by omega)
  have h4 : B / 2 ^ (Q + m) % 2 < 2 := Nat.mod_lt _ (by omega)
  have e : B / 2 ^ (Q + m) % 2 ^ (W - m) = 2 * (B / 2 ^ (Q + (m + 1)) % 2 ^ (W - (m + 1))) + B / 2 ^ (Q + m) % 2 := by
    rw [show W - m = (W - (m + 1)) + 1 from by omega, mod_two, Nat.div_div_eq_div_mul, ← Nat.pow_succ]
    rfl
  rw [e]
  generalize B / 2 ^ (Q + (m + 1)) % 2 ^ (W - (m + 1)) = y at *
  generalize B / 2 ^ (Q + m) % 2 = b at *
  omega

end Go.Proofs.Ytignjhmbajiphaa
