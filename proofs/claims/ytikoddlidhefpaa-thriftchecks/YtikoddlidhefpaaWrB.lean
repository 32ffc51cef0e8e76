/-
  The writer's numbers.
-/
import Derived.Test.YtikoddlidhefpaaWr
import Derived.LaidMore
import Derived.Laws.BitsAllLaws
namespace Go.Proofs.Ytikoddlidhefpaa
open Go.ChangeShapes Go.WideShapes Go.ChangeAt Go.RowKit Go.Deep

/-- a number's bytes: seven bits a byte -/
def numF : Nat → Nat → List Nat
  | 0, n => [n]
  | f + 1, n => if n < 128 then [n] else (n % 128 + 128) :: numF f (n / 128)
def numB (n : Nat) : List Nat := numF 9 n
theorem numF_len : ∀ (f n : Nat), (numF f n).length ≤ f + 1
  | 0, n => by simp [numF]
  | f + 1, n => by
    unfold numF
    split
    · simp
    · have := numF_len f (n / 128)
      simp; omega
theorem numB_len (n : Nat) : (numB n).length ≤ 10 := numF_len 9 n

theorem or128 (n : Nat) : bits .or .u8 ((n % 256 : Nat) : Int) 128 = ((n % 128 + 128 : Nat) : Int) := by
  have h2 : n % 256 < 256 := Nat.mod_lt _ (by omega)
  have e1 : n % 128 = (n % 256) % 128 := by omega
  rw [e1]
  generalize n % 256 = m at *
  clear e1
  have : ∀ m : Fin 256, bits .or .u8 ((m.val : Nat) : Int) 128 = ((m.val % 128 + 128 : Nat) : Int) := by decide +kernel
  exact this ⟨m, h2⟩

set_option maxRecDepth 10000 in
set_option maxHeartbeats 1000000 in
theorem number_any (w : World) (B : Nat) (out : List Nat) (n : Nat) (hn : n < 18446744073709551616) (hl : out.length + 10 ≤ 70368744177664) (h : Wr w B out) :
    Calls Try.prog 56 #[.pointer (some ⟨B, 0, none⟩), .int .u64 n] w fun e w' => e = .returned (.tuple #[]) ∧ Wr w' B (out ++ numB n) ∧ WF B w w' := by
  have hn' : (n : Int) ≤ 18446744073709551615 := by omega
  go_enter Try.func56, Try.ntmps56
  go_wp2_with fail
  go_loopw [1] (fun nv wr => ∃ (f m : Nat) (done : List Nat), nv = .int .u64 m ∧ Hid (m < 128 ^ f * 2 ∧ f ≤ 9 ∧ m < 18446744073709551616 ∧ done.length + f = 9) ∧ Hid (done ++ numF f m = numB n) ∧ Hid (Wr wr B (out ++ done)) ∧ WF B w wr) (fun nv _ => (intOf nv).toNat)
  case atStart => exact ⟨9, n, [], rfl, ⟨by omega, by omega, hn, rfl⟩, rfl, by rw [List.append_nil]; exact h, WF.refl _ _⟩
  case round =>
    obtain ⟨f, m, done, rfl, HM, HE, HW, hwf⟩ := hrel
    obtain ⟨m1, m2, m3, m4⟩ := HM.out
    have m3' : (m : Int) ≤ 18446744073709551615 := by omega
    by_cases hlt : m < 128
    · have hlt' : (m : Int) < 128 := by omega
      have HE' : Hid (done ++ [m] = numB n) := by
        show _ = _
        rw [← HE.out]
        cases f with
        | zero => rfl
        | succ f => simp [numF, hlt]
      have L := lay_any wr B (out ++ done) m (by simp; omega) HW.out
      rw [List.append_assoc, HE'.out] at L
      clear HE HE' m1 m3
      go_wp2_with fail
      refine L.mono ?_
      rintro e wx ⟨rfl, hwx⟩
      go_wp2_with fail
      go_end0
      exact ⟨rfl, hwx.1, hwf.trans hwx.2⟩
    · have hlt' : (128 : Int) ≤ (m : Int) := by omega
      obtain ⟨f, rfl⟩ : ∃ g, f = g + 1 := by
        cases f with
        | zero => simp at m1; omega
        | succ f => exact ⟨f, rfl⟩
      have HE' : Hid ((done ++ [m % 128 + 128]) ++ numF f (m / 128) = numB n) := by
        show _ = _
        rw [← HE.out]
        simp [numF, hlt]
      have HM' : Hid (m / 128 < 128 ^ f * 2 ∧ f ≤ 9 ∧ m / 128 < 18446744073709551616 ∧ (done ++ [m % 128 + 128]).length + f = 9) := by
        refine ⟨?_, by omega, by omega, by simp; omega⟩
        rw [Nat.pow_succ] at m1
        generalize 128 ^ f = z at *
        omega
      have HMS : Hid (m / 128 < m) := by show _ < _; omega
      have L := lay_any wr B (out ++ done) (m % 128 + 128) (by simp; omega) HW.out
      rw [List.append_assoc] at L
      have o1 := or128 m
      have o2 : ((m % 256 : Nat) : Int) = (m : Int) % 256 := by omega
      rw [o2] at o1
      obtain ⟨q, hq⟩ : ∃ q : Nat, q = m / 128 := ⟨_, rfl⟩
      have o3 : (m : Int) / 128 = (q : Int) := by omega
      rw [← hq] at HE' HM' HMS
      clear o2 hq
      generalize m % 128 + 128 = z at *
      clear HE m1 m3
      go_wp2_with fail
      refine L.mono ?_
      rintro e wx ⟨rfl, hwx⟩
      go_wp2_with fail
      go_roundw
      case rel => exact ⟨f, q, done ++ [z], rfl, HM', HE', hwx.1, hwf.trans hwx.2⟩
      case measure => have := HMS.out; simp [intOf]; omega

def zz (n : Int) : Int := if 0 ≤ n then 2 * n else -2 * n - 1
theorem xor_ones_u64 (a : Nat) (ha : a < 18446744073709551616) : bits .xor .u64 (a : Int) 18446744073709551615 = 18446744073709551615 - (a : Int) := by
  show IntKind.u64.wrap ((BitVec.ofInt 64 (a : Int) ^^^ BitVec.ofInt 64 18446744073709551615).toNat : Int) = _
  have h1 : BitVec.ofInt 64 18446744073709551615 = BitVec.allOnes 64 := by decide
  rw [h1, BitVec.xor_allOnes, BitVec.toNat_not, ofInt_u64 a (by omega)]
  simp [IntKind.wrap, IntKind.bits, IntKind.signed]
  omega
theorem xor_zero_u64 (a : Nat) (ha : a < 18446744073709551616) : bits .xor .u64 (a : Int) 0 = (a : Int) := by
  have := u64_xor_nat a 0 ha (by omega)
  simpa using this
theorem zig_val (a : Int) (h1 : -9223372036854775808 ≤ a) (h2 : a ≤ 9223372036854775807) :
    bits BinOp.xor IntKind.u64 (IntKind.u64.wrap (wrap64 (a * 2))) (IntKind.u64.wrap (a / 9223372036854775808)) = zz a := by
  rw [IntKind.wrap_u64, IntKind.wrap_u64]
  unfold wrap64 zz
  by_cases h : 0 ≤ a
  · rw [if_pos h]
    have e1 : ((a * 2 + 9223372036854775808) % 18446744073709551616 - 9223372036854775808) % 18446744073709551616 = ((2 * a).toNat : Int) := by omega
    have e2 : a / 9223372036854775808 % 18446744073709551616 = 0 := by omega
    rw [e1, e2, xor_zero_u64 _ (by omega)]
    omega
  · rw [if_neg h]
    have e1 : ((a * 2 + 9223372036854775808) % 18446744073709551616 - 9223372036854775808) % 18446744073709551616 = ((2 * a + 18446744073709551616).toNat : Int) := by omega
    have e2 : a / 9223372036854775808 % 18446744073709551616 = 18446744073709551615 := by omega
    rw [e1, e2, xor_ones_u64 _ (by omega)]
    omega

/-- a number with its sign, as one from 0 on -/
def zig (n : Int) : Nat := (zz n).toNat
theorem zig_zz {n : Int} (h : i64ok n) : ((zig n : Nat) : Int) = zz n ∧ zig n < 18446744073709551616 := by
  obtain ⟨h0, h1⟩ := h
  unfold zig zz
  split <;> omega

set_option maxRecDepth 10000 in
set_option maxHeartbeats 1000000 in
theorem wsigned_any (w : World) (B : Nat) (out : List Nat) (n : Int) (hn : i64ok n) (hl : out.length + 10 ≤ 70368744177664) (h : Wr w B out) :
    Calls Try.prog 54 #[.pointer (some ⟨B, 0, none⟩), .int .i64 n] w fun e w' => e = .returned (.tuple #[]) ∧ Wr w' B (out ++ numB (zig n)) ∧ WF B w w' := by
  have hz := zig_zz hn
  obtain ⟨n0, n1⟩ := hn
  have L := number_any w B out (zig n) hz.2 hl h
  have v := zig_val n n0 n1
  rw [← hz.1] at v
  clear hz hl h
  generalize zig n = z at *
  by_cases hs : 0 ≤ n
  · have e0 : n / 9223372036854775808 = 0 := by omega
    rw [e0] at v
    have e1 : IntKind.u64.wrap 0 = 0 := by decide
    rw [e1] at v
    clear e1
    go_enter Try.func54, Try.ntmps54
    go_wp2_with fail
    refine L.mono ?_
    rintro e wx ⟨rfl, hwx⟩
    go_wp2_with fail
    go_end0
    exact ⟨rfl, hwx⟩
  · go_enter Try.func54, Try.ntmps54
    go_wp2_with fail
    refine L.mono ?_
    rintro e wx ⟨rfl, hwx⟩
    go_wp2_with fail
    go_end0
    exact ⟨rfl, hwx⟩

set_option maxRecDepth 10000 in
set_option maxHeartbeats 1000000 in
theorem layHalves_any (w : World) (B : Nat) (out : List Nat) (a b : Nat) (ha : a < 16) (hb : b < 16) (hl : out.length + 1 ≤ 70368744177664) (h : Wr w B out) :
    Calls Try.prog 74 #[.pointer (some ⟨B, 0, none⟩), .int .i64 a, .int .i64 b] w fun e w' => e = .returned (.tuple #[]) ∧ Wr w' B (out ++ [16 * a + b]) ∧ WF B w w' := by
  have L := lay_any w B out (16 * a + b) hl h
  obtain ⟨c, hc⟩ : ∃ c : Nat, c = 16 * a + b := ⟨_, rfl⟩
  rw [← hc] at L ⊢
  have e : (a : Int) * 16 + (b : Int) = (c : Int) := by omega
  have hc2 : (c : Int) < 256 := by omega
  have ha' : (a : Int) < 16 := by omega
  have hb' : (b : Int) < 16 := by omega
  clear hc hl h
  go_enter Try.func74, Try.ntmps74
  go_wp2_with fail
  refine L.mono ?_
  rintro e wx ⟨rfl, hwx⟩
  go_wp2_with fail
  go_end0
  exact ⟨rfl, hwx⟩

/-- the eight bytes of a number, the lowest ahead -/
def leB : Nat → Nat → List Nat
  | 0, _ => []
  | k + 1, n => n % 256 :: leB k (n / 256)
theorem leB_len : ∀ (k n : Nat), (leB k n).length = k
  | 0, _ => rfl
  | k + 1, n => by simp [leB, leB_len k]

set_option maxRecDepth 10000 in
set_option maxHeartbeats 1000000 in
theorem wdouble_any (w : World) (B : Nat) (out : List Nat) (n : Nat) (hn : n < 18446744073709551616) (hl : out.length + 8 ≤ 70368744177664) (h : Wr w B out) :
    Calls Try.prog 55 #[.pointer (some ⟨B, 0, none⟩), .int .u64 n] w fun e w' => e = .returned (.tuple #[]) ∧ Wr w' B (out ++ leB 8 n) ∧ WF B w w' := by
  go_enter Try.func55, Try.ntmps55
  go_wp2_with fail
  go_loopw [1, 4] (fun nv iv wr => ∃ (i m : Nat) (done : List Nat), nv = .int .u64 m ∧ iv = .int .i64 i ∧ i ≤ 8 ∧ Hid (m < 18446744073709551616 ∧ done.length = i) ∧ Hid (done ++ leB (8 - i) m = leB 8 n) ∧ Hid (Wr wr B (out ++ done)) ∧ WF B w wr) (fun _ iv _ => 8 - (intOf iv).toNat)
  case atStart => exact ⟨0, n, [], rfl, rfl, by omega, ⟨hn, rfl⟩, rfl, by rw [List.append_nil]; exact h, WF.refl _ _⟩
  case round =>
    obtain ⟨i, m, done, rfl, rfl, hi, HM, HE, HW, hwf⟩ := hrel
    obtain ⟨m1, m2⟩ := HM.out
    have m3' : (m : Int) ≤ 18446744073709551615 := by omega
    by_cases hlt : i < 8
    · have hlt' : (i : Int) < 8 := by omega
      have HE' : Hid ((done ++ [m % 256]) ++ leB (8 - (i + 1)) (m / 256) = leB 8 n) := by
        show _ = _
        rw [← HE.out, show 8 - i = (8 - (i + 1)) + 1 by omega]
        simp [leB]
      have L := lay_any wr B (out ++ done) (m % 256) (by simp; omega) HW.out
      rw [List.append_assoc] at L
      obtain ⟨q, hq⟩ : ∃ q : Nat, q = m / 256 := ⟨_, rfl⟩
      obtain ⟨z, hz⟩ : ∃ z : Nat, z = m % 256 := ⟨_, rfl⟩
      have o3 : (m : Int) / 256 = (q : Int) := by omega
      have o4 : (m : Int) % 256 = (z : Int) := by omega
      rw [← hz] at L HE'
      rw [← hq] at HE'
      have HM' : Hid (q < 18446744073709551616 ∧ (done ++ [z]).length = i + 1) := ⟨by omega, by simp; omega⟩
      clear HE m1 hq hz
      go_wp2_with fail
      refine L.mono ?_
      rintro e wx ⟨rfl, hwx⟩
      go_wp2_with fail
      go_roundw
      case rel => exact ⟨i + 1, q, done ++ [z], rfl, by go_num, by omega, HM', HE', hwx.1, hwf.trans hwx.2⟩
      case measure => simp [intOf]; omega
    · have hlt' : (8 : Int) ≤ (i : Int) := by omega
      have HE' : Hid (done = leB 8 n) := by
        show _ = _
        rw [← HE.out, show 8 - i = 0 by omega]
        simp [leB]
      have HW' : Hid (Wr wr B (out ++ leB 8 n)) := by have := HW.out; rwa [HE'.out] at this
      go_wp2_with fail
      go_end0
      exact ⟨rfl, HW'.out, hwf⟩
end Go.Proofs.Ytikoddlidhefpaa
