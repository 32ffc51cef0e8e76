/-
  bits.bitsOf's iterator: it hands on the bits of the bytes in order, till a round says no more.
-/
import Derived.RangeFuncNested
import Derived.RangeFuncBound
import Derived.RangeFuncCalls
import Derived.RangeFuncLeaves
import Derived.Shelf.Abstract
import Derived.WalkKit
import Derived.OwnWalkIn
import Derived.TacticsInMore
import Derived.LoopNIn
import Derived.LoopIn
import Derived.Test.YtdglobonbhkheaaBB
import Derived.Test.YtdglobonbhkheaaBMath
import Derived.Laws.BitsAllLaws
namespace Go.Proofs.Ytdglobonbhkheaa
open Go.RowKit Go.Shelf

attribute [local go_sem] Oper.semAt_some

def upto {α : Type} (f : Nat → α) (k : Nat) : List α := (List.range k).map f
theorem upto_succ {α : Type} (f : Nat → α) (k : Nat) : upto f (k + 1) = upto f k ++ [f k] := by simp [upto, List.range_succ]
theorem upto_length {α : Type} (f : Nat → α) (k : Nat) : (upto f k).length = k := by simp [upto]
/-- the i-th bit of a number -/
def bt (B i : Nat) : Bool := decide (B / 2 ^ i % 2 = 1)
/-- as a number -/
def bi (b : Bool) : Int := if b then 1 else 0

theorem bi_bt (B i : Nat) : bi (bt B i) = ((B / 2 ^ i % 2 : Nat) : Int) := by
  unfold bi bt
  have : B / 2 ^ i % 2 < 2 := Nat.mod_lt _ (by omega)
  generalize B / 2 ^ i % 2 = r at *
  by_cases h : r = 1
  · subst h; rfl
  · have : r = 0 := by omega
    subst this; rfl

/-- a byte's bit -/
theorem byte_bit (B j i : Nat) (hi : i < 8) : bits .and .u8 (((B / 2 ^ (8 * j) % 256 : Nat) : Int) / 2 ^ i) 1 = bi (bt B (8 * j + i)) := by
  rw [bi_bt]
  have hb : B / 2 ^ (8 * j) % 256 < 256 := Nat.mod_lt _ (by omega)
  have e1 : ((B / 2 ^ (8 * j) % 256 : Nat) : Int) / 2 ^ i = ((B / 2 ^ (8 * j) % 256 / 2 ^ i : Nat) : Int) := by simp
  have hd : B / 2 ^ (8 * j) % 256 / 2 ^ i ≤ B / 2 ^ (8 * j) % 256 := Nat.div_le_self _ _
  rw [e1]
  have := u8_and_nat (B / 2 ^ (8 * j) % 256 / 2 ^ i) 1 (by omega) (by omega)
  rw [show ((1 : Nat) : Int) = 1 from rfl] at this
  rw [this, nat_mask1]
  congr 1
  have e2 : 256 = 2 ^ i * 2 ^ (8 - i) := by rw [← Nat.pow_add, show i + (8 - i) = 8 from by omega]
  rw [e2, Nat.mod_mul_right_div_self, bit_shift]
  exact Nat.mod_mod_of_dvd _ ⟨2 ^ (8 - i - 1), by rw [← Nat.pow_succ', show (8 - i - 1).succ = 8 - i from by omega]⟩


set_option maxRecDepth 100000 in
set_option maxHeartbeats 2000000 in
theorem bits1_in (F : Fence) (n : Nat) (h29 : F.fn 93) (hro : F.round = none) (hn : 1 ≤ n) (l Bs n₀ B len cap : Nat) (ad : Option Addr) (hlen : len ≤ 1048576) (J Jx : List Bool → World → Prop)
    (hY : ∀ pre x W, J pre W → pre.length < 8 * len → YieldAt F (n - 1) Try.prog l #[.int .i64 (bi x)] W fun e W' =>
      (e = .returned (.bool true) ∧ J (pre ++ [x]) W' ∧ Below n₀ W W') ∨ (e = .returned (.bool false) ∧ Jx (pre ++ [x]) W'))
    (W : World) (hBs : W.cell? ⟨Bs, 0, none⟩ = some (.slice ad len cap)) (hc : ∀ j, j < len → ∃ g off, ad = some ⟨g, off, none⟩ ∧ g < n₀ ∧ W.cell? ⟨g, off + j, none⟩ = some (.int .u8 ((B / 2 ^ (8 * j) % 256 : Nat) : Int))) (h0 : J [] W) :
    CallsIn F n Try.prog 93 #[.func (.yield l) #[] #[], .pointer (some ⟨Bs, 0, none⟩)] W fun e W' => (∃ v, e = .returned v) ∧
      ((∃ ys, ys = upto (bt B) (8 * len) ∧ J ys W') ∨ (∃ pre, (∃ k, k ≤ 8 * len ∧ pre = upto (bt B) k) ∧ Jx pre W')) := by
  refine callsIn_of_wp Try.func93 rfl h29 ?_ hro
  simp only [Try.ntmps93, List.size_toArray, List.length_cons, List.length_nil, Nat.reduceAdd, Nat.reduceSub, Array.replicate_succ, Array.replicate_zero, List.push_toArray, List.append_toArray, List.nil_append, List.cons_append]
  gi_wp2
  gi_loopw [8] (fun c wr => ∃ j : Nat, j ≤ len ∧ c = .int .i64 j ∧ J (upto (bt B) (8 * j)) wr ∧ Below n₀ W wr)
    (fun c _ => len - (intOf c).toNat)
  case atStart => exact ⟨0, Nat.zero_le _, rfl, h0, Below.refl _ _⟩
  case round =>
    obtain ⟨j, hj, rfl, hJs, hnx⟩ := hrel
    by_cases hlt : j < len
    · have hlt' : (j : Int) < (len : Int) := by omega
      obtain ⟨g, off, rfl, hg, hcj⟩ := hc j hlt
      have hcx := (hnx.cell (p := ⟨g, off + j, none⟩) hg).trans hcj
      have HB := byte_bit B j
      have HBh : Hid _ := HB
      have hcb : B / 2 ^ (8 * j) % 256 < 256 := Nat.mod_lt _ (by omega)
      generalize hq : B / 2 ^ (8 * j) % 256 = q at *
      have hq0 : 0 ≤ (q : Int) ∧ (q : Int) ≤ 255 := by omega
      clear HB hq hcb hcj
      gi_wp2
      gi_loopw [12] (fun c wr => ∃ i : Nat, i ≤ 8 ∧ c = .int .i64 i ∧ J (upto (bt B) (8 * j + i)) wr ∧ Below n₀ W wr)
        (fun c _ => 8 - (intOf c).toNat)
      case atStart => exact ⟨0, by omega, rfl, hJs, hnx⟩
      case round =>
        obtain ⟨i, hi, rfl, hJ2, hn2⟩ := hrel
        by_cases hlt2 : i < 8
        · have hlt2' : (i : Int) < 8 := by omega
          have hE := HBh.out i hlt2
          obtain ⟨fn, tmps, assign, body, hy, hR⟩ := hY _ (bt B (8 * j + i)) wr hJ2 (by rw [upto_length]; omega)
          have HU : Hid _ := upto_succ (bt B) (8 * j + i)
          generalize bt B (8 * j + i) = x at *
          have hbx : 0 ≤ bi x ∧ bi x ≤ 1 := by unfold bi; split <;> omega
          gi_wp2
          refine hR.mono ?_
          rintro e W3 (⟨rfl, hJ3, hk3⟩ | ⟨rfl, hJx3⟩)
          · gi_wp2
            go_roundw
            case rel => exact ⟨i + 1, by omega, by go_num, by rw [← Nat.add_assoc, HU.out]; exact hJ3, hn2.trans hk3⟩
            case measure => simp [intOf]; omega
          · gi_wp2
            refine bodyPost_ret (results_none rfl _ _ _) rfl ?_
            exact ⟨⟨_, rfl⟩, .inr ⟨_, ⟨8 * j + i + 1, by omega, HU.out.symm⟩, hJx3⟩⟩
        · have hi8 : (8 : Int) ≤ (i : Int) := by omega
          have HI : Hid (i = 8) := by show _ = _; omega
          gi_wp2
          go_roundw
          case rel => exact ⟨j + 1, by omega, by go_num, by rw [Nat.mul_succ]; have h := hJ2; rw [HI.out] at h; exact h, hn2⟩
          case measure => simp [intOf]; omega
    · have hlt' : (len : Int) ≤ (j : Int) := by omega
      have HJ : Hid (j = len) := by show _ = _; omega
      gi_wp2
      go_end0
      exact ⟨⟨_, rfl⟩, .inl ⟨_, by rw [HJ.out], hJs⟩⟩

theorem pk_bits (B : Nat) : ∀ t : Nat, pk 1 ((upto (bt B) t).map Bool.toNat) = B % 2 ^ t
  | 0 => by simp [upto, pk, Nat.mod_one]
  | t + 1 => by
    have ih := pk_bits B t
    have e : (bt B t).toNat = B / 2 ^ t % 2 := by
      unfold bt
      have : B / 2 ^ t % 2 < 2 := Nat.mod_lt _ (by omega)
      generalize B / 2 ^ t % 2 = r at *
      by_cases h : r = 1
      · subst h; rfl
      · have : r = 0 := by omega
        subst this; rfl
    rw [upto_succ, List.map_append, List.map_cons, List.map_nil, pk_snoc, ih, List.length_map, upto_length, e, Nat.one_mul, Nat.pow_succ, Nat.mod_mul, Nat.mul_comm (2 ^ t)]

set_option maxRecDepth 100000 in
set_option maxHeartbeats 1000000 in
theorem bitsOf_in (F : Fence) (n : Nat) (h25 : F.fn 85) (hro : F.round = none) (ad : Option Addr) (len cap : Nat) (w : World) :
    CallsIn F n Try.prog 85 #[.slice ad len cap] w fun e w' => e = .returned (.func (.func 93) #[] #[.pointer (some ⟨w.heap.size, 0, none⟩)]) ∧ w' = w.alloc (.cells #[.slice ad len cap] 27) := by
  refine callsIn_of_wp Try.func85 rfl h25 ?_ hro
  simp only [Try.ntmps85, List.size_toArray, List.length_cons, List.length_nil, Nat.reduceAdd, Nat.reduceSub, Array.replicate_succ, Array.replicate_zero, List.push_toArray, List.append_toArray, List.nil_append, List.cons_append]
  gi_wp2
  go_ret
  exact ⟨rfl, rfl⟩

/-- bytes that lie below n₀: the slice holds the bytes of the number B -/
def BytesAt (n₀ : Nat) (W : World) (ad : Option Addr) (len B : Nat) : Prop :=
  ∀ j, j < len → ∃ g off, ad = some ⟨g, off, none⟩ ∧ g < n₀ ∧ W.cell? ⟨g, off + j, none⟩ = some (.int .u8 ((B / 2 ^ (8 * j) % 256 : Nat) : Int))
theorem BytesAt.below {n₀ : Nat} {A C : World} {ad : Option Addr} {len B : Nat} (h : BytesAt n₀ A ad len B) (hb : Below n₀ A C) : BytesAt n₀ C ad len B := by
  intro j hj
  obtain ⟨g, off, e, hg, hc⟩ := h j hj
  exact ⟨g, off, e, hg, (hb.cell (p := ⟨g, off + j, none⟩) hg).trans hc⟩

theorem bits_stops (F : Fence) (n : Nat) (h29 : F.fn 93) (hro : F.round = none) (hn : 1 ≤ n) (Bs n₀ B len cap : Nat) (ad : Option Addr) (hlen : len ≤ 1048576) (w : World) (hBs : Bs < w.heap.size) (hn₀ : n₀ ≤ w.heap.size)
    (hc : w.cell? ⟨Bs, 0, none⟩ = some (.slice ad len cap)) (hI : BytesAt n₀ w ad len B) :
    SeqStopsK F n Try.prog 93 #[.pointer (some ⟨Bs, 0, none⟩)] (fun x : Bool => #[Value.int .i64 (bi x)]) (Below n₀) (fun ys => ys = upto (bt B) (8 * len)) (fun pre => ∃ k, k ≤ 8 * len ∧ pre = upto (bt B) k) (8 * len) w := fun l J Jx W hW _ _ hY h0 => by
  have hc' := (hW.cell (p := ⟨Bs, 0, none⟩) hBs).trans hc
  exact bits1_in F n h29 hro hn l Bs n₀ B len cap ad hlen J Jx hY W hc' (hI.below (hW.mono hn₀)) h0
end Go.Proofs.Ytdglobonbhkheaa
