/-
  What sums.Of answers: too short, too long, or the number whose bytes they are.
-/
import Derived.Test.YtjncjfefploneaaDoorUpdate
namespace Go.Proofs.YtjncjfefploneaaDoor
open Go.ChangeShapes Go.WideShapes Go.ChangeAt Go.RowKit Go.Shelf

set_option maxHeartbeats 1000000 in
theorem of_short (ad : Option Addr) (len cap : Nat) (w : World) (h : len < 4) :
    Calls Tryd.prog 17 #[.slice ad len cap] w fun e w' => e = .returned (.tuple #[.int .u32 0, .int .i64 6]) ∧ w' = w := by
  have h' : (len : Int) < 4 := by omega
  go_enter Tryd.func17, Tryd.ntmps17
  go_wp2
  go_ret2
  exact ⟨rfl, rfl⟩
set_option maxHeartbeats 1000000 in
theorem of_long (ad : Option Addr) (len cap : Nat) (w : World) (h : 4 < len) :
    Calls Tryd.prog 17 #[.slice ad len cap] w fun e w' => e = .returned (.tuple #[.int .u32 0, .int .i64 7]) ∧ w' = w := by
  have h' : (4 : Int) < (len : Int) := by omega
  go_enter Tryd.func17, Tryd.ntmps17
  go_wp2
  go_ret2
  exact ⟨rfl, rfl⟩

theorem num8_snoc : ∀ (l : List Nat) (x : Nat), num8 (l ++ [x]) = num8 l + x * 2 ^ (8 * l.length)
  | [], x => by simp [num8]
  | c :: l, x => by
    simp only [List.cons_append, num8, num8_snoc l x, List.length_cons]
    rw [show 8 * (l.length + 1) = 8 * l.length + 8 from rfl, Nat.pow_add, Nat.mul_add, Nat.add_assoc, Nat.mul_left_comm 256, Nat.mul_comm (2 ^ (8 * l.length))]
theorem num8_lt : ∀ l : List Nat, B8 l → num8 l < 2 ^ (8 * l.length)
  | [], _ => by simp [num8]
  | c :: l, h => by
    have ih := num8_lt l (fun d hd => h d (List.mem_cons_of_mem _ hd))
    have hc := h c List.mem_cons_self
    simp only [num8, List.length_cons]
    rw [show 8 * (l.length + 1) = 8 * l.length + 8 from rfl, Nat.pow_add]
    generalize 2 ^ (8 * l.length) = p at *
    omega
theorem take_b8 {l : List Nat} (h : B8 l) (j : Nat) : B8 (l.take j) := fun c hc => h c (List.mem_of_mem_take hc)
theorem take_snoc {l : List Nat} {j : Nat} (hj : j < l.length) : l.take (j + 1) = l.take j ++ [l.getD j 0] := by
  rw [List.take_succ_eq_append_getElem hj, List.getD, List.getElem?_eq_getElem hj]
  rfl
theorem getD_b8 {l : List Nat} (h : B8 l) {j : Nat} (hj : j < l.length) : l.getD j 0 < 256 := by
  rw [List.getD, List.getElem?_eq_getElem hj]
  exact h _ (List.getElem_mem _)
theorem of_step {l : List Nat} (h : B8 l) (hl : l.length = 4) {j m : Nat} (hj : j < 4) (hm : m = num8 (l.take j)) :
    bits .or .u32 (m : Int) (((l.getD j 0 : Nat) : Int) % 4294967296 * 2 ^ (8 * j) % 4294967296) = ((num8 (l.take (j + 1)) : Nat) : Int) := by
  have hz := getD_b8 h (j := j) (by omega)
  have e1 := take_snoc (l := l) (j := j) (by omega)
  have e2 := num8_lt _ (take_b8 h j)
  have e3 : (l.take j).length = j := by rw [List.length_take]; omega
  rw [e1, num8_snoc, ← hm, e3]
  rw [e3, ← hm] at e2
  generalize l.getD j 0 = z at *
  have hp : 2 ^ (8 * j) ≤ 2 ^ 24 := Nat.pow_le_pow_right (by omega) (by omega)
  have hzp : z * 2 ^ (8 * j) ≤ 255 * 2 ^ 24 := Nat.mul_le_mul (by omega) hp
  have ez : (z : Int) % 4294967296 * 2 ^ (8 * j) % 4294967296 = ((z * 2 ^ (8 * j) : Nat) : Int) := by
    rw [show (z : Int) % 4294967296 = z from by omega]
    rw [show (z : Int) * 2 ^ (8 * j) = ((z * 2 ^ (8 * j) : Nat) : Int) from by simp]
    exact Int.emod_eq_of_lt (by omega) (by omega)
  rw [ez, u32_or_nat _ _ (by omega) (by omega), Nat.or_comm, nat_join (8 * j) _ _ (Nat.mul_mod_left _ _) e2, Nat.add_comm]

set_option maxHeartbeats 1000000 in
theorem of_four (ad : Option Addr) (cap : Nat) (l : List Nat) (w : World) (hsrc : Src w ad 4 cap (c8 l)) (hB : B8 l) :
    Calls Tryd.prog 17 #[.slice ad 4 cap] w fun e w' => e = .returned (.tuple #[.int .u32 ((num8 l : Nat) : Int), .int .i64 0]) ∧ w' = w := by
  have hll : l.length = 4 := by have := hsrc.1; rwa [c8_len] at this
  go_enter Tryd.func17, Tryd.ntmps17
  go_wp2
  go_loop [4, 15] (fun s c => ∃ j m : Nat, j ≤ 4 ∧ c = .int .i64 j ∧ s = .int .u32 m ∧ Hid (m = num8 (l.take j))) (fun _ c => 4 - (intOf c).toNat)
  case atStart => exact ⟨0, 0, by omega, rfl, rfl, rfl⟩
  case round =>
    obtain ⟨j, m, hj, rfl, rfl, H⟩ := hrel
    by_cases hlt : j < 4
    · have hlt' : (j : Int) < 4 := by omega
      obtain ⟨g, off, rfl, hc⟩ := src_at hsrc hlt
      have S := of_step hB hll hlt H.out
      have HS : Hid _ := S
      clear S
      generalize l.getD j 0 = z at *
      go_wp2
      exact ⟨⟨j + 1, num8 (l.take (j + 1)), by omega, by go_num, congrArg _ HS.out, rfl⟩, by simp [intOf]; omega⟩
    · have hlt' : (4 : Int) ≤ (j : Int) := by omega
      have HJ : Hid (j = 4) := by show _ = _; omega
      go_wp2
      go_ret2
      refine ⟨?_, rfl⟩
      have e := H.out
      rw [HJ.out, List.take_of_length_le (by omega)] at e
      rw [← e]
      rfl
end Go.Proofs.YtjncjfefploneaaDoor
