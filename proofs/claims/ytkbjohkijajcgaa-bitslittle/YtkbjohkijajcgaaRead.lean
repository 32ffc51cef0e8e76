/-
  bits.taker's closure, and bits.ReadVarint where a varint stands.
-/
import Derived.Test.YtkbjohkijajcgaaVar
import Derived.WalkMore
namespace Go.Proofs.Ytkbjohkijajcgaa
open Go.ChangeShapes Go.WideShapes Go.ChangeAt Go.RowKit

set_option maxHeartbeats 400000 in
theorem take_yes (Ba Bb g off L cap p : Nat) (c : Int) (w : World) (hp : p < L) (hL : L ≤ 9223372036854775807) (ha : w.cell? ⟨Ba, 0, none⟩ = some (.int .i64 p)) (hf : w.frozen? ⟨Ba, 0, none⟩ = false)
    (hb : w.cell? ⟨Bb, 0, none⟩ = some (.slice (some ⟨g, off, none⟩) L cap)) (hc : w.cell? ⟨g, off + p, none⟩ = some (.int .u8 c)) :
    Calls Try.prog 26 #[.pointer (some ⟨Ba, 0, none⟩), .pointer (some ⟨Bb, 0, none⟩)] w fun e w' => e = .returned (.tuple #[.int .u8 c, .bool true]) ∧ w' = w.setCell ⟨Ba, 0, none⟩ (.int .i64 ((p + 1 : Nat) : Int)) := by
  have hp' : (p : Int) < (L : Int) := by omega
  go_enter Try.func26, Try.ntmps26
  go_wp2
  go_ret2
  exact ⟨rfl, rfl⟩
set_option maxHeartbeats 400000 in
theorem take_no (Ba Bb L cap p : Nat) (ad : Option Addr) (w : World) (hp : L ≤ p) (ha : w.cell? ⟨Ba, 0, none⟩ = some (.int .i64 p))
    (hb : w.cell? ⟨Bb, 0, none⟩ = some (.slice ad L cap)) :
    Calls Try.prog 26 #[.pointer (some ⟨Ba, 0, none⟩), .pointer (some ⟨Bb, 0, none⟩)] w fun e w' => e = .returned (.tuple #[.int .u8 0, .bool false]) ∧ w' = w := by
  have hp' : (L : Int) ≤ (p : Int) := by omega
  go_enter Try.func26, Try.ntmps26
  go_wp2
  go_ret2
  exact ⟨rfl, rfl⟩
/-- the byte that stands first -/
def hd (m : Int) : Int := if 128 ≤ m then 128 + m % 128 else m

theorem andnot128 (m : Int) (hm : 0 ≤ m) : bits .andNot .u8 (hd m) 128 = m % 128 := by
  have hb : 0 ≤ hd m ∧ hd m < 256 ∧ hd m % 128 = m % 128 := by unfold hd; split <;> omega
  rw [u8_andNot _ _ (by omega) (by omega) (by omega) (by omega)]
  have e := nat_mask7 (hd m).toNat
  rw [show (255 - (128 : Int).toNat) = 127 from rfl, e]
  omega

theorem acc_step (N j : Nat) (hN : N < 18446744073709551616) :
    bits .or .u64 ((N % 2 ^ (7 * j) : Nat) : Int) (IntKind.u64.wrap (IntKind.u64.wrap (bits .andNot .u8 (hd ((N / 2 ^ (7 * j) : Nat) : Int)) 128) * 2 ^ (7 * j))) = ((N % 2 ^ (7 * (j + 1)) : Nat) : Int) := by
  rw [andnot128 _ (Int.natCast_nonneg _)]
  have hpow : (2 : Int) ^ (7 * j) = ((2 ^ (7 * j) : Nat) : Int) := by simp
  have hpow2 : 2 ^ (7 * (j + 1)) = 2 ^ (7 * j) * 128 := by rw [Nat.mul_add, Nat.pow_add]
  rw [hpow, hpow2, Nat.mod_mul]
  have hP : 0 < 2 ^ (7 * j) := Nat.two_pow_pos _
  generalize hQ : 2 ^ (7 * j) = P at *
  have hle : N / P % 128 * P ≤ N := Nat.le_trans (Nat.mul_le_mul_right P (Nat.mod_le _ _)) (Nat.div_mul_le_self N P)
  have e1 : IntKind.u64.wrap (((N / P : Nat) : Int) % 128) = ((N / P % 128 : Nat) : Int) := by rw [IntKind.wrap_u64]; omega
  rw [e1, ← Int.natCast_mul]
  have e2 : IntKind.u64.wrap ((N / P % 128 * P : Nat) : Int) = ((N / P % 128 * P : Nat) : Int) := by rw [IntKind.wrap_u64]; omega
  have hlt : N % P < P := Nat.mod_lt _ hP
  have hle2 : N % P ≤ N := Nat.mod_le _ _
  rw [e2, u64_or_nat _ _ (by omega) (by omega), Nat.or_comm, nat_join (7 * j) _ _ (by rw [hQ]; exact Nat.mul_mod_left _ _) (by rw [hQ]; exact hlt), Nat.mul_comm P, Nat.add_comm]

theorem vb_hd (m : Int) (h : m ≤ 18446744073709551615) : (vb m).getD 0 0 = hd m ∧ (128 ≤ m → (vb m).drop 1 = vb (m / 128)) ∧ (¬ 128 ≤ m → vb m = [m]) := by
  rw [vb_step m h]
  unfold hd
  by_cases hm : 128 ≤ m
  · simp [hm]
  · simp [hm]

/-- where the loop stands behind j bytes: what is left of the number, what is gathered, the bytes to come -/
def At (N : Nat) (n : Int) (j m acc : Nat) : Prop := m = N / 2 ^ (7 * j) ∧ acc = N % 2 ^ (7 * j) ∧ (vb n).drop j = vb m

theorem At.zero (N : Nat) : At N N 0 N 0 := ⟨by simp, by simp [Nat.mod_one], rfl⟩
theorem At.m_le {N j m acc : Nat} {n : Int} (h : At N n j m acc) : m ≤ N := by rw [h.1]; exact Nat.div_le_self _ _
theorem At.byte {N j m acc : Nat} {n : Int} (h : At N n j m acc) (hN : N < 18446744073709551616) : (vb n).getD j 0 = hd m ∧ j < (vb n).length := by
  have hle := h.m_le
  have e := (vb_hd m (by omega)).1
  have l := (vb_len m).1
  rw [← h.2.2] at e l
  rw [List.length_drop] at l
  refine ⟨?_, by omega⟩
  rw [← e]
  simp [List.getD]
theorem At.next {N j m acc : Nat} {n : Int} (h : At N n j m acc) (hN : N < 18446744073709551616) (hm : 128 ≤ m) :
    At N n (j + 1) (m / 128) (N % 2 ^ (7 * (j + 1))) := by
  have hle := h.m_le
  refine ⟨?_, rfl, ?_⟩
  · rw [h.1, Nat.mul_add, Nat.pow_add, Nat.div_div_eq_div_mul]
  · have e := (vb_hd m (by omega)).2.1 (by omega)
    rw [← h.2.2, List.drop_drop] at e
    rw [e]
    exact congrArg vb (by omega)
theorem At.gather {N j m acc : Nat} {n : Int} (h : At N n j m acc) (hN : N < 18446744073709551616) :
    bits .or .u64 (acc : Int) (IntKind.u64.wrap (IntKind.u64.wrap (bits .andNot .u8 (hd m) 128) * 2 ^ (7 * j))) = ((N % 2 ^ (7 * (j + 1)) : Nat) : Int) := by
  rw [h.1, h.2.1]
  exact acc_step N j hN
theorem At.last {N j m acc : Nat} {n : Int} (h : At N n j m acc) (hN : N < 18446744073709551616) (hm : m < 128) : N % 2 ^ (7 * (j + 1)) = N ∧ (vb n).length = j + 1 := by
  have hle := h.m_le
  constructor
  · apply Nat.mod_eq_of_lt
    rw [Nat.mul_add, Nat.pow_add]
    have := h.1
    rw [this] at hm
    have hp : 0 < 2 ^ (7 * j) := Nat.two_pow_pos _
    have := (Nat.div_lt_iff_lt_mul hp).1 hm
    rw [Nat.mul_comm] at this
    exact this
  · have e := (vb_hd m (by omega)).2.2 (by omega)
    have l := congrArg List.length (h.2.2.trans e)
    simp at l
    have := (h.byte hN).2
    omega
theorem At.nine {N j m acc : Nat} {n : Int} (h : At N n j m acc) (hN : N < 18446744073709551616) (hj : 9 ≤ j) : m ≤ 1 := by
  rw [h.1]
  have h1 : N / 2 ^ (7 * j) ≤ N / 2 ^ 63 := Nat.div_le_div_left (Nat.pow_le_pow_right (by omega) (by omega)) (Nat.two_pow_pos _)
  have h2 : N / 2 ^ 63 ≤ 1 := by omega
  omega
theorem hd_le (m : Int) (h : 0 ≤ m) : 0 ≤ hd m ∧ hd m ≤ 255 := by unfold hd; split <;> omega
theorem hd_more {m : Int} (h : 128 ≤ m) : 128 ≤ hd m := by unfold hd; rw [if_pos h]; omega
theorem hd_last {m : Int} (h : ¬ 128 ≤ m) : hd m = m := by unfold hd; rw [if_neg h]

theorem three_int {a b c d : Int} (h : a = c) (g : b = d) : Ending.returned (.tuple #[.int .u64 a, .int .i64 b, .int .i64 0]) = .returned (.tuple #[.int .u64 c, .int .i64 d, .int .i64 0]) := by rw [h, g]

set_option maxHeartbeats 4000000 in
set_option maxRecDepth 100000 in
theorem readv_any (g L cap k N : Nat) (w : World) (hN : N < 18446744073709551616) (hL : L ≤ 1000000) (hk : k + (vb N).length ≤ L) (hg : g < w.heap.size)
    (hc : ∀ j, j < (vb N).length → w.cell? ⟨g, k + j, none⟩ = some (.int .u8 ((vb N).getD j 0))) :
    Calls Try.prog 15 #[.slice (some ⟨g, 0, none⟩) L cap, .int .i64 k] w fun e w' => e = .returned (.tuple #[.int .u64 N, .int .i64 ((k + (vb N).length : Nat) : Int), .int .i64 0]) ∧ Below w.heap.size w w' := by
  have hk' : (k : Int) ≤ (L : Int) := by omega
  go_enter Try.func15, Try.ntmps15
  go_wp2
  go_step3
  go_wp2
  go_step3
  go_wp2
  go_loopw [8, 9, 10] (fun a o i wr => ∃ (j m acc : Nat), a = .int .u64 acc ∧ o = .bool false ∧ i = .int .i64 j ∧ j ≤ 9 ∧ (j = 0 ∨ 1 ≤ m) ∧ At N N j m acc ∧ Below w.heap.size w wr ∧
      wr.cell? ⟨w.heap.size, 0, none⟩ = some (.slice (some ⟨g, 0, none⟩) L cap) ∧ wr.cell? ⟨w.heap.size + 1, 0, none⟩ = some (.int .i64 ((k + j : Nat) : Int)) ∧ wr.frozen? ⟨w.heap.size + 1, 0, none⟩ = false)
    (fun _ _ i _ => 10 - (intOf i).toNat)
  case atStart => exact ⟨0, N, 0, rfl, rfl, rfl, by omega, .inl rfl, At.zero N, ((Below.refl _ w).alloc (Nat.le_refl _) _).alloc (by simp) _, by simp, by simp, by simp⟩
  case round =>
    obtain ⟨j, m, acc, rfl, rfl, rfl, hj, hjm, H, hb, hcb, hca, hfa⟩ := hrel
    obtain ⟨hby, hjl⟩ := H.byte hN
    have hcj : wr.cell? ⟨g, 0 + (k + j), none⟩ = some (.int .u8 (hd m)) := by rw [Nat.zero_add, ← hby]; exact (hb.cell (p := ⟨g, k + j, none⟩) hg).trans (hc j hjl)
    have hcr : k + j < L := by omega
    clear hby
    obtain ⟨hc0, hc1⟩ := hd_le (m : Int) (Int.natCast_nonneg _)
    by_cases hlt : 128 ≤ m
    · have hc2 : 128 ≤ hd (m : Int) := hd_more (by omega)
      have hj8 : (j : Int) < 9 := by
        rcases Nat.lt_or_ge j 9 with h | h
        · omega
        · have := H.nine hN h; omega
      have hj9 : ((j : Int) == 9) = false := by simp; omega
      go_wp2_with (go_at_call 26; refine (take_yes _ _ g 0 L cap (k + j) (hd m) _ hcr (by omega) hca hfa hcb hcj).mono ?_; rintro e w1 ⟨rfl, rfl⟩)
      go_roundw
      case rel =>
        have R : ∃ (j' m' acc' : Nat), Value.int .u64 (bits .or .u64 (acc : Int) (IntKind.u64.wrap (IntKind.u64.wrap (bits .andNot .u8 (hd m) 128) * 2 ^ (7 * j)))) = .int .u64 acc' ∧ Value.bool false = .bool false ∧ Value.int .i64 ((j : Int) + 1) = .int .i64 j' ∧ j' ≤ 9 ∧ (j' = 0 ∨ 1 ≤ m') ∧ At N N j' m' acc' ∧ Below w.heap.size w (wr.setCell ⟨w.heap.size + 1, 0, none⟩ (.int .i64 ((k + j + 1 : Nat) : Int))) ∧
            (wr.setCell ⟨w.heap.size + 1, 0, none⟩ (.int .i64 ((k + j + 1 : Nat) : Int))).cell? ⟨w.heap.size, 0, none⟩ = some (.slice (some ⟨g, 0, none⟩) L cap) ∧ (wr.setCell ⟨w.heap.size + 1, 0, none⟩ (.int .i64 ((k + j + 1 : Nat) : Int))).cell? ⟨w.heap.size + 1, 0, none⟩ = some (.int .i64 ((k + j' : Nat) : Int)) ∧ (wr.setCell ⟨w.heap.size + 1, 0, none⟩ (.int .i64 ((k + j + 1 : Nat) : Int))).frozen? ⟨w.heap.size + 1, 0, none⟩ = false :=
          ⟨j + 1, m / 128, N % 2 ^ (7 * (j + 1)), congrArg (Value.int .u64) (H.gather hN), rfl, by go_num, by omega, .inr (by omega), H.next hN hlt, hb.setCell (p := ⟨w.heap.size + 1, 0, none⟩) (by simp) _, (World.cell?_setCell_other _ _ _ _ (by simp)).trans hcb, World.cell?_setCell_same _ _ _ hca, by rw [World.frozen?_setCell]; exact hfa⟩
        (repeat apply Exists.intro)
        exact ⟨R, rfl⟩
      case measure => simp [intOf]; omega
    · have hhd := hd_last (m := (m : Int)) (by omega)
      have HL := H.last hN (by omega)
      have HG := H.gather hN
      rw [HL.1] at HG
      rw [hhd] at hcj HG
      have HGh : Hid (bits .or .u64 (acc : Int) (IntKind.u64.wrap (IntKind.u64.wrap (bits .andNot .u8 (m : Int) 128) * 2 ^ (7 * j))) = (N : Int)) := HG
      have HLh : Hid ((vb N).length = j + 1) := HL.2
      have hm7 : (m : Int) < 128 := by omega
      clear hhd hc0 hc1 HG HL
      by_cases h9 : j = 9
      · have hm1 := H.nine hN (by omega)
        have hj9 : ((j : Int) == 9) = true := by simp; omega
        have hm2 : ((m : Int) == 0) = false := by simp; omega
        have hm3 : (m : Int) ≤ 1 := by omega
        clear h9
        go_wp2_with (go_at_call 26; refine (take_yes _ _ g 0 L cap (k + j) m _ hcr (by omega) hca hfa hcb hcj).mono ?_; rintro e w1 ⟨rfl, rfl⟩)
        try rw [Exit.noGoto_ret]
        go_ret3
        exact ⟨three_int HGh.out (by have := HLh.out; omega), hb.setCell (p := ⟨w.heap.size + 1, 0, none⟩) (by simp) _⟩
      · have hj9 : ((j : Int) == 9) = false := by simp; omega
        by_cases hz : m = 0
        · have hm2 : ((m : Int) == 0) = true := by simp; omega
          have hj0 : (j : Int) ≤ 0 := by omega
          clear hz h9
          go_wp2_with (go_at_call 26; refine (take_yes _ _ g 0 L cap (k + j) m _ hcr (by omega) hca hfa hcb hcj).mono ?_; rintro e w1 ⟨rfl, rfl⟩)
          try rw [Exit.noGoto_ret]
          go_ret3
          exact ⟨three_int HGh.out (by have := HLh.out; omega), hb.setCell (p := ⟨w.heap.size + 1, 0, none⟩) (by simp) _⟩
        · have hm2 : ((m : Int) == 0) = false := by simp; omega
          clear hz h9
          go_wp2_with (go_at_call 26; refine (take_yes _ _ g 0 L cap (k + j) m _ hcr (by omega) hca hfa hcb hcj).mono ?_; rintro e w1 ⟨rfl, rfl⟩)
          try rw [Exit.noGoto_ret]
          go_ret3
          exact ⟨three_int HGh.out (by have := HLh.out; omega), hb.setCell (p := ⟨w.heap.size + 1, 0, none⟩) (by simp) _⟩
end Go.Proofs.Ytkbjohkijajcgaa
