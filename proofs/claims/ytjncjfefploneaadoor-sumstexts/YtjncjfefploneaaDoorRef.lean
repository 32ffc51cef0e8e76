/-
  What the reference's Step, Take, Update and Crc answer.
-/
import Derived.Test.YtjncjfefploneaaDoorWorks
namespace Go.Proofs.YtjncjfefploneaaDoor
open Go.ChangeShapes Go.WideShapes Go.ChangeAt Go.RowKit Go.Shelf

set_option maxHeartbeats 1000000 in
theorem rstep_any (x : Nat) (w : World) (hx : x < 4294967296) : Calls Tryd.prog 28 #[.int .u32 x] w fun e w' => e = .returned (.int .u32 ((stp x : Nat) : Int)) ∧ w' = w := by
  have hx' : (x : Int) < 4294967296 := by omega
  by_cases h : x % 2 = 1
  · have h' : (x : Int) % 2 = 1 := by omega
    obtain ⟨y, hy⟩ : ∃ y : Nat, y = x / 2 := ⟨_, rfl⟩
    have a2 : (x : Int) / 2 = (y : Int) := by omega
    have a1 : bits .xor .u32 (y : Int) 3988292384 = ((stp x : Nat) : Int) := by
      have := u32_xor_nat y 3988292384 (by omega) (by omega)
      unfold stp
      rw [if_pos h, ← hy]
      exact this
    generalize stp x = z at *
    clear hy
    go_enter Tryd.func28, Tryd.ntmps28
    go_wp2
    go_ret
    exact ⟨rfl, rfl⟩
  · have h' : (x : Int) % 2 = 0 := by omega
    have a1 : (x : Int) / 2 = ((stp x : Nat) : Int) := by unfold stp; rw [if_neg h]; omega
    generalize stp x = z at *
    go_enter Tryd.func28, Tryd.ntmps28
    go_wp2
    go_ret
    exact ⟨rfl, rfl⟩

set_option maxRecDepth 10000 in
set_option maxHeartbeats 1000000 in
theorem rtake_any (x c : Nat) (w : World) (hx : x < 4294967296) (hc : c < 256) : Calls Tryd.prog 24 #[.int .u32 x, .int .u8 c] w fun e w' => e = .returned (.int .u32 ((tk x c : Nat) : Int)) ∧ w' = w := by
  have a1 : bits .xor .u32 (x : Int) (c : Int) = ((x ^^^ c : Nat) : Int) := u32_xor_nat x c hx (by omega)
  obtain ⟨y, hy⟩ : ∃ y : Nat, y = x ^^^ c := ⟨_, rfl⟩
  have hyl : y < 4294967296 := by rw [hy]; exact xor_lt hx (by omega)
  rw [← hy] at a1
  obtain ⟨t, ht⟩ : ∃ t : Nat, t = tk x c := ⟨_, rfl⟩
  rw [← ht]
  have E : Hid (t = stps 8 y) := by show t = _; rw [ht, hy]; rfl
  have hc' : (c : Int) < 256 := by omega
  clear hy ht
  go_enter Tryd.func24, Tryd.ntmps24
  go_wp2
  go_loop [0, 5] (fun s i => ∃ j : Nat, j ≤ 8 ∧ i = .int .i64 j ∧ s = .int .u32 ((stps j y : Nat) : Int)) (fun _ i => 8 - (intOf i).toNat)
  case atStart => exact ⟨0, by omega, rfl, rfl⟩
  case round =>
    obtain ⟨j, hj, rfl, rfl⟩ := hrel
    by_cases hlt : j < 8
    · have hlt' : (j : Int) < 8 := by omega
      have hs := stps_lt j hyl
      have HS : Hid _ := stps_succ j y
      generalize stps j y = z at *
      go_wp2_with (go_at_call 28; refine (rstep_any z _ hs).mono ?_; rintro e wx ⟨rfl, hwx⟩; obtain rfl := hwx.symm)
      go_round
      case rel => exact ⟨j + 1, by omega, by go_num, by rw [HS.out]⟩
      case measure => simp [intOf]; omega
    · have hlt' : (8 : Int) ≤ (j : Int) := by omega
      have HJ : Hid (j = 8) := by show _ = _; omega
      have e : Hid (stps j y = t) := by show _ = _; rw [E.out]; exact congrArg (fun k => stps k y) HJ.out
      generalize stps j y = z at *
      go_wp2
      go_ret
      exact ⟨congrArg (fun n : Nat => Ending.returned (.int .u32 (n : Int))) e.out, rfl⟩

set_option maxHeartbeats 1000000 in
theorem rupdate_any (s : Nat) (ad : Option Addr) (len cap : Nat) (l : List Nat) (w : World) (hs : s < 4294967296) (hlen : len ≤ 1048576) (hsrc : Src w ad len cap (c8 l)) (hB : B8 l) :
    Calls Tryd.prog 15 #[.int .u32 s, .slice ad len cap] w fun e w' => e = .returned (.int .u32 ((upd s l : Nat) : Int)) ∧ w' = w := by
  have HL : Hid (l.length = len) := by have := hsrc.1; rwa [c8_len] at this
  have hM : (s ^^^ 4294967295) < 4294967296 := xor_lt hs (by omega)
  have a1 : bits .xor .u32 (s : Int) 4294967295 = ((s ^^^ 4294967295 : Nat) : Int) := u32_xor_nat s 4294967295 hs (by omega)
  have HE : Hid (upd s l = tks (s ^^^ 4294967295) l ^^^ 4294967295) := rfl
  obtain ⟨s0, hs0⟩ : ∃ s0 : Nat, s0 = s ^^^ 4294967295 := ⟨_, rfl⟩
  rw [← hs0] at hM a1 HE
  have hlen' : (len : Int) ≤ 1048576 := by omega
  clear hs0
  go_enter Tryd.func15, Tryd.ntmps15
  go_wp2
  go_loop [0, 5] (fun s i => ∃ j y : Nat, j ≤ len ∧ i = .int .i64 j ∧ s = .int .u32 y ∧ Hid (y = tks s0 (l.take j))) (fun _ i => len - (intOf i).toNat)
  case atStart => exact ⟨0, s0, Nat.zero_le _, rfl, rfl, rfl⟩
  case round =>
    obtain ⟨j, y, hj, rfl, rfl, H⟩ := hrel
    clear a1
    by_cases hlt : j < len
    · have hlt' : (j : Int) < (len : Int) := by omega
      have hjl : j < l.length := by have := HL.out; omega
      obtain ⟨g, off, rfl, hc⟩ := src_at hsrc hlt
      have hz := getD_b8 hB hjl
      have hy : y < 4294967296 := by rw [H.out]; exact tks_lt _ hM (take_b8 hB j)
      have HS : Hid (tk y (l.getD j 0) = tks s0 (l.take (j + 1))) := by show _ = _; rw [take_snoc hjl, tks_snoc, ← H.out]
      generalize l.getD j 0 = z at *
      go_wp2_with (go_at_call 24; refine (rtake_any y z _ hy hz).mono ?_; rintro e wx ⟨rfl, hwx⟩; obtain rfl := hwx.symm)
      go_round
      case rel => exact ⟨j + 1, tk y z, by omega, by go_num, rfl, HS⟩
      case measure => simp [intOf]; omega
    · have hlt' : (len : Int) ≤ (j : Int) := by omega
      have HY : Hid (y = tks s0 l) := by show _ = _; rw [H.out, List.take_of_length_le (by have := HL.out; omega)]
      have hy : y < 4294967296 := by rw [HY.out]; exact tks_lt _ hM hB
      have a2 : bits .xor .u32 (y : Int) 4294967295 = ((y ^^^ 4294967295 : Nat) : Int) := u32_xor_nat y 4294967295 hy (by omega)
      go_wp2
      go_ret
      refine ⟨?_, rfl⟩
      rw [HE.out, ← HY.out]
      rfl

set_option maxHeartbeats 1000000 in
theorem rcrc_any (ad : Option Addr) (len cap : Nat) (l : List Nat) (w : World) (hlen : len ≤ 1048576) (hsrc : Src w ad len cap (c8 l)) (hB : B8 l) :
    Calls Tryd.prog 12 #[.slice ad len cap] w fun e w' => e = .returned (.int .u32 ((upd 0 l : Nat) : Int)) ∧ w' = w := by
  have R := rupdate_any 0 ad len cap l w (by omega) hlen hsrc hB
  go_enter Tryd.func12, Tryd.ntmps12
  go_wp2_with (go_at_call 15; refine R.mono ?_; rintro e wx ⟨rfl, hwx⟩; obtain rfl := hwx.symm)
  go_ret
  exact ⟨rfl, rfl⟩
end Go.Proofs.YtjncjfefploneaaDoor
