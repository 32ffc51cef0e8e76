/-
  What bits.Varint and the reference's Varint answer: the bytes 'vb n', in memory of the call's own; what lay below stays.
-/
import Derived.Test.YtlajjkpcgokinaaBB
import Derived.WalkKit
import Derived.ProofKit
import Derived.OpenShut
import Derived.Laws.BitsAllLaws
import Derived.Maps.AppendAt
import Derived.Laws.BytesArg
import Derived.Laws.OwnMore
namespace Go.Proofs.Ytlajjkpcgokinaa
open Go.ChangeShapes Go.WideShapes Go.ChangeAt Go.RowKit

/-- seven bits a byte, the lowest first, 128 more in all but the last -/
def vbf : Nat → Int → List Int
  | 0, n => [n]
  | f + 1, n => if 128 ≤ n then (128 + n % 128) :: vbf f (n / 128) else [n]
def vb (n : Int) : List Int := vbf 9 n

theorem vbf_fuel : ∀ (f : Nat) (n : Int), n < 128 ^ (f + 1) → ∀ g, f ≤ g → vbf g n = vbf f n
  | 0, n, h, g, _ => by
    cases g with
    | zero => rfl
    | succ g => simp only [vbf]; rw [if_neg (by simpa using h)]
  | f + 1, n, h, g, hg => by
    obtain ⟨g', rfl⟩ : ∃ g', g = g' + 1 := ⟨g - 1, by omega⟩
    simp only [vbf]
    by_cases hn : 128 ≤ n
    · rw [if_pos hn, if_pos hn, vbf_fuel f (n / 128) ?_ g' (by omega)]
      rw [Int.pow_succ] at h
      generalize (128 : Int) ^ (f + 1) = p at h ⊢
      omega
    · rw [if_neg hn, if_neg hn]
theorem vb_step (n : Int) (h : n ≤ 18446744073709551615) : vb n = if 128 ≤ n then (128 + n % 128) :: vb (n / 128) else [n] := by
  have e := vbf_fuel 8 (n / 128) (by have : (128 : Int) ^ (8 + 1) = 9223372036854775808 := by decide
                                     omega) 9 (by omega)
  unfold vb
  rw [e]
  rfl
theorem vbf_len : ∀ (f : Nat) (n : Int), 1 ≤ (vbf f n).length ∧ (vbf f n).length ≤ f + 1
  | 0, n => by simp [vbf]
  | f + 1, n => by
    simp only [vbf]
    have := vbf_len f (n / 128)
    split <;> simp <;> omega
theorem vb_len (n : Int) : 1 ≤ (vb n).length ∧ (vb n).length ≤ 10 := vbf_len 9 n

theorem or128_nat : ∀ k : Fin 256, k.val ||| 128 = 128 + k.val % 128 := by decide +kernel
theorem or128 (n : Int) : bits .or .u8 (n % 256) 128 = 128 + n % 128 := by
  rw [u8_or _ _ (by omega) (by omega) (by omega) (by omega)]
  have := or128_nat ⟨(n % 256).toNat, by omega⟩
  simp only at this
  rw [show (128 : Int).toNat = 128 from rfl, this]
  omega

theorem var_keep {w wr w1 : World} {v v' : Value} {m x e : Int} {pre : List Int} (hm1 : m ≤ 18446744073709551615) (hlt : 128 ≤ m) (he : e = 128 + m % 128)
    (hs : w.heap.size ≤ wr.heap.size) (H : pre ++ vb m = vb x) (hown : wr.ownsRow w.heap.size 5 1 v pre.length (pre.map (Value.int .u8))) (hnx : Below w.heap.size w wr)
    (hown' : w1.ownsRow w.heap.size 5 1 v' (pre.length + 1) (pre.map (Value.int .u8) ++ [.int .u8 e])) (hgrow : (wr.alloc (.cells #[.int .u8 e] 5)).grownBy w1 v.ownBlock) :
    w1.ownsRow w.heap.size 5 1 v' (pre ++ [128 + m % 128]).length ((pre ++ [128 + m % 128]).map (Value.int .u8)) ∧ Below w.heap.size w w1 ∧ pre ++ [128 + m % 128] ++ vb (m / 128) = vb x := by
  subst he
  refine ⟨by simpa using hown', (hnx.alloc hs _).grown hgrow (by simp; omega) (fun k e => (hown.lt k e).1), ?_⟩
  rw [← H, vb_step m hm1, if_pos hlt]
  simp
theorem var_end {w wr w1 : World} {v v' : Value} {m x e : Int} {pre : List Int} (hm1 : m ≤ 18446744073709551615) (hlt : ¬ 128 ≤ m) (he : e = m)
    (hs : w.heap.size ≤ wr.heap.size) (H : pre ++ vb m = vb x) (hown : wr.ownsRow w.heap.size 5 1 v pre.length (pre.map (Value.int .u8))) (hnx : Below w.heap.size w wr)
    (hown' : w1.ownsRow w.heap.size 5 1 v' (pre.length + 1) (pre.map (Value.int .u8) ++ [.int .u8 e])) (hgrow : (wr.alloc (.cells #[.int .u8 e] 5)).grownBy w1 v.ownBlock) :
    w1.ownsRow w.heap.size 5 1 v' (vb x).length ((vb x).map (Value.int .u8)) ∧ Below w.heap.size w w1 := by
  subst he
  rw [← H, vb_step e hm1, if_neg hlt]
  exact ⟨by simpa using hown', (hnx.alloc hs _).grown hgrow (by simp; omega) (fun k e => (hown.lt k e).1)⟩

set_option maxRecDepth 100000 in
set_option maxHeartbeats 1000000 in
theorem varint_any (x : Int) (w : World) (h0 : 0 ≤ x) (h1 : x ≤ 18446744073709551615) :
    Calls Try.prog 45 #[.int .u64 x] w fun e w' => ∃ v, e = .returned v ∧ w'.ownsRow w.heap.size 5 1 v (vb x).length ((vb x).map (Value.int .u8)) ∧ Below w.heap.size w w' := by
  obtain ⟨i0, hi, hz0, hz1, hz2⟩ := info_parts Try.info5
  go_enter Try.func45, Try.ntmps45
  go_wp2
  go_loopw [0, 3] (fun n v wr => ∃ (m : Int) (pre : List Int), 0 ≤ m ∧ m ≤ 18446744073709551615 ∧ n = .int .u64 m ∧ wr.ownsRow w.heap.size 5 1 v pre.length (pre.map (Value.int .u8)) ∧ Below w.heap.size w wr ∧ Hid (pre ++ vb m = vb x))
    (fun n _ _ => (intOf n).toNat)
  case atStart => exact ⟨x, [], h0, h1, rfl, World.ownsRow_nil _ _ _ _, Below.refl _ _, rfl⟩
  case round =>
    obtain ⟨m, pre, hm0, hm1, rfl, hown, hnx, H⟩ := hrel
    have hp : pre.length ≤ 9 := by
      have a := vb_len m
      have b := vb_len x
      have c := congrArg List.length H.out
      rw [List.length_append] at c
      omega
    by_cases hlt : 128 ≤ m
    · go_wp2_with (at_builtin; refine wpList_append_own _ rfl _ _ 34 rfl w.heap.size 5 i0 (.int .u8 0) 1 1 Try.underlying34 hi hz0 hz1 hz2 rfl (by decide) _ _ _ rfl (hown.alloc _) ⟨wr.heap.size, 0, none⟩ 1 1 [.int .u8 (bits BinOp.or IntKind.u8 (m % 256) 128)] rfl rfl (cell_one_new _ _ _) (by simp [Value.oneCell']) (by unfold maxLen; omega) (by omega) (by have := hnx.size; simp; omega) ?_; intro v' w1 hown' hgrow _)
      have R := var_keep hm1 hlt (or128 m) hnx.size H.out hown hnx hown' hgrow
      clear hown' hgrow hown
      go_wp2
      go_roundw
      case rel => exact ⟨m / 128, pre ++ [128 + m % 128], by omega, by omega, rfl, R.1, R.2.1, R.2.2⟩
      case measure => simp [intOf]; omega
    · go_wp2_with (at_builtin; refine wpList_append_own _ rfl _ _ 34 rfl w.heap.size 5 i0 (.int .u8 0) 1 1 Try.underlying34 hi hz0 hz1 hz2 rfl (by decide) _ _ _ rfl (hown.alloc _) ⟨wr.heap.size, 0, none⟩ 1 1 [.int .u8 m] rfl rfl (cell_one_new _ _ _) (by simp [Value.oneCell']) (by unfold maxLen; omega) (by omega) (by have := hnx.size; simp; omega) ?_; intro v' w1 hown' hgrow _)
      have R := var_end hm1 (by omega) rfl hnx.size H.out hown hnx hown' hgrow
      clear hown' hgrow hown
      go_wp2
      go_ret
      exact ⟨_, rfl, R.1, R.2⟩

set_option maxRecDepth 100000 in
set_option maxHeartbeats 1000000 in
theorem rvarint_any (x : Int) (w : World) (h0 : 0 ≤ x) (h1 : x ≤ 18446744073709551615) :
    Calls Try.prog 31 #[.int .u64 x] w fun e w' => ∃ v, e = .returned v ∧ w'.ownsRow w.heap.size 5 1 v (vb x).length ((vb x).map (Value.int .u8)) ∧ Below w.heap.size w w' := by
  obtain ⟨i0, hi, hz0, hz1, hz2⟩ := info_parts Try.info5
  go_enter Try.func31, Try.ntmps31
  go_wp2
  go_loopw [0, 3] (fun n v wr => ∃ (m : Int) (pre : List Int), 0 ≤ m ∧ m ≤ 18446744073709551615 ∧ n = .int .u64 m ∧ wr.ownsRow w.heap.size 5 1 v pre.length (pre.map (Value.int .u8)) ∧ Below w.heap.size w wr ∧ Hid (pre ++ vb m = vb x))
    (fun n _ _ => (intOf n).toNat)
  case atStart => exact ⟨x, [], h0, h1, rfl, World.ownsRow_nil _ _ _ _, Below.refl _ _, rfl⟩
  case round =>
    obtain ⟨m, pre, hm0, hm1, rfl, hown, hnx, H⟩ := hrel
    have hp : pre.length ≤ 9 := by
      have a := vb_len m
      have b := vb_len x
      have c := congrArg List.length H.out
      rw [List.length_append] at c
      omega
    by_cases hlt : 128 ≤ m
    · go_wp2_with (at_builtin; refine wpList_append_own _ rfl _ _ 34 rfl w.heap.size 5 i0 (.int .u8 0) 1 1 Try.underlying34 hi hz0 hz1 hz2 rfl (by decide) _ _ _ rfl (hown.alloc _) ⟨wr.heap.size, 0, none⟩ 1 1 [.int .u8 (128 + m % 128)] rfl rfl (cell_one_new _ _ _) (by simp [Value.oneCell']) (by unfold maxLen; omega) (by omega) (by have := hnx.size; simp; omega) ?_; intro v' w1 hown' hgrow _)
      have R := var_keep hm1 hlt rfl hnx.size H.out hown hnx hown' hgrow
      clear hown' hgrow hown
      go_wp2
      go_roundw
      case rel => exact ⟨m / 128, pre ++ [128 + m % 128], by omega, by omega, rfl, R.1, R.2.1, R.2.2⟩
      case measure => simp [intOf]; omega
    · go_wp2_with (at_builtin; refine wpList_append_own _ rfl _ _ 34 rfl w.heap.size 5 i0 (.int .u8 0) 1 1 Try.underlying34 hi hz0 hz1 hz2 rfl (by decide) _ _ _ rfl (hown.alloc _) ⟨wr.heap.size, 0, none⟩ 1 1 [.int .u8 m] rfl rfl (cell_one_new _ _ _) (by simp [Value.oneCell']) (by unfold maxLen; omega) (by omega) (by have := hnx.size; simp; omega) ?_; intro v' w1 hown' hgrow _)
      have R := var_end hm1 (by omega) rfl hnx.size H.out hown hnx hown' hgrow
      clear hown' hgrow hown
      go_wp2
      go_ret
      exact ⟨_, rfl, R.1, R.2⟩
end Go.Proofs.Ytlajjkpcgokinaa
