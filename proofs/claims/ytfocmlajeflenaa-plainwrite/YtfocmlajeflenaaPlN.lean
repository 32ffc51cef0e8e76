/-
  Numbers as bytes, said of bytes as numbers that are not negative.
-/
import Derived.Test.YtfocmlajeflenaaPlK
import Derived.Test.YtfocmlajeflenaaBLit
import Derived.Test.YtfocmlajeflenaaBReadL
import Derived.Test.YtfocmlajeflenaaBPackAny
namespace Go.Proofs.Ytfocmlajeflenaa
set_option linter.unusedVariables false
set_option linter.unusedSimpArgs false
open Go.ChangeShapes Go.WideShapes Go.ChangeAt Go.RowKit

theorem lb_upk : ∀ (k N : Nat), lb k (N : Int) = ints (upk 8 k N)
  | 0, _ => rfl
  | k + 1, N => by
    have e : ((N : Int) / 256) = ((N / 256 : Nat) : Int) := by omega
    rw [lb, e, lb_upk k, upk, ints, ints, List.map_cons]
    rfl
theorem rl_pk : ∀ l : List Nat, rl (ints l) = ((pk 8 l : Nat) : Int)
  | [] => rfl
  | x :: l => by
    have e : ints (x :: l) = (x : Int) :: ints l := rfl
    rw [e, rl, rl_pk l, pk]
    omega
theorem ints_drop (l : List Nat) (p k : Nat) : ((ints l).drop p).take k = ints ((l.drop p).take k) := by simp [ints, List.map_take, List.map_drop]
theorem ints_len (l : List Nat) : (ints l).length = l.length := by simp [ints]
theorem bytes_ints {l : List Nat} (h : ∀ x ∈ l, x < 256) : Bytes (ints l) := by
  intro c hc
  obtain ⟨x, hx, rfl⟩ := List.mem_map.1 hc
  have := h x hx
  omega

theorem little_nat (N k : Nat) (hk : k ≤ 8) (h : N < 2 ^ (8 * k)) (w : World) :
    Calls Try.prog 66 #[.int .u64 N, .int .i64 k] w fun e w' => ∃ v, e = .returned (.tuple #[v, .int .i64 0]) ∧ w'.ownsRow w.heap.size 5 1 v k (c8 (upk 8 k N)) ∧ Below w.heap.size w w' := by
  have h64 : N < 2 ^ 64 := Nat.lt_of_lt_of_le h (Nat.pow_le_pow_right (by omega) (by omega))
  have hb : Lib.bitLen N ≤ 8 * k := Lib.bitLen_le N (8 * k) (by omega) (by simpa using h)
  have := little_yes (N : Int) k w (by omega) (by omega) (by unfold ltlNo; rw [Int.toNat_natCast]; omega)
  rw [lb_upk, ← c8_ints] at this
  exact this
/-- the number at a place, and whether it is there -/
theorem readl_nat {w : World} {a : Option Addr} {len cap : Nat} {bs : List Nat} (h : Byt w a len cap bs) (p k : Nat) (hp : p ≤ len) (hk : k ≤ 8) :
    Calls Try.prog 68 #[.slice a len cap, .int .i64 p, .int .i64 k] w fun e w' => ∃ x er : Nat, e = .returned (.tuple #[.int .u64 x, .int .i64 er]) ∧ ((k ≤ (bs.drop p).length ∧ x = pk 8 ((bs.drop p).take k) ∧ er = 0) ∨ (¬ k ≤ (bs.drop p).length ∧ x = 0 ∧ er = 6)) ∧ Below w.heap.size w w' := by
  have hl := h.len
  have R := readl_any a len cap (p : Int) (k : Int) (ints bs) w h.most (by rw [← c8_ints]; exact h.src) (bytes_ints h.lt)
  refine R.mono ?_
  rintro e w' ⟨rfl, hb⟩
  have hil : (ints bs).length = len := by rw [ints_len, hl]
  by_cases hin : p + k ≤ len
  · obtain ⟨e1, e2⟩ := rle_ok (zs := ints bs) (L := (len : Int)) (p := p) (k := k) (by rw [hil]) (by omega) (by omega)
    rw [e1, e2, Int.toNat_natCast, Int.toNat_natCast, ints_drop, rl_pk]
    exact ⟨_, 0, rfl, .inl ⟨by rw [List.length_drop]; omega, rfl, rfl⟩, hb⟩
  · obtain ⟨e1, e2⟩ := rle_short (zs := ints bs) (L := (len : Int)) (p := p) (k := k) (by rw [hil]) (by omega) (by omega)
    rw [e1, e2]
    exact ⟨0, 6, rfl, .inr ⟨by rw [List.length_drop]; omega, rfl, rfl⟩, hb⟩
theorem rreadl_nat {w : World} {a : Option Addr} {len cap : Nat} {bs : List Nat} (h : Byt w a len cap bs) (p k : Nat) (hp : p ≤ len) (hk : k ≤ 8) :
    Calls Try.prog 28 #[.slice a len cap, .int .i64 p, .int .i64 k] w fun e w' => ∃ x er : Nat, e = .returned (.tuple #[.int .u64 x, .int .i64 er]) ∧ ((k ≤ (bs.drop p).length ∧ x = pk 8 ((bs.drop p).take k) ∧ er = 0) ∨ (¬ k ≤ (bs.drop p).length ∧ x = 0 ∧ er = 6)) ∧ w' = w := by
  have hl := h.len
  have R := rreadl_any a len cap (p : Int) (k : Int) (ints bs) w h.most (by rw [← c8_ints]; exact h.src) (bytes_ints h.lt)
  refine R.mono ?_
  rintro e w' ⟨rfl, hb⟩
  have hil : (ints bs).length = len := by rw [ints_len, hl]
  by_cases hin : p + k ≤ len
  · obtain ⟨e1, e2⟩ := rle_ok (zs := ints bs) (L := (len : Int)) (p := p) (k := k) (by rw [hil]) (by omega) (by omega)
    rw [e1, e2, Int.toNat_natCast, Int.toNat_natCast, ints_drop, rl_pk]
    exact ⟨_, 0, rfl, .inl ⟨by rw [List.length_drop]; omega, rfl, rfl⟩, hb⟩
  · obtain ⟨e1, e2⟩ := rle_short (zs := ints bs) (L := (len : Int)) (p := p) (k := k) (by rw [hil]) (by omega) (by omega)
    rw [e1, e2]
    exact ⟨0, 6, rfl, .inr ⟨by rw [List.length_drop]; omega, rfl, rfl⟩, hb⟩
theorem pk8_lt {l : List Nat} (h : ∀ x ∈ l, x < 256) : pk 8 l < 2 ^ (8 * l.length) := pk_lt 8 l (fun x hx => by have := h x hx; omega)
end Go.Proofs.Ytfocmlajeflenaa
