/-
  What bits.Little and the reference's Little answer, at every number and every count of bytes.
-/
import Derived.Test.YtdglobonbhkheaaBB
import Derived.Test.YtdglobonbhkheaaBWidth
namespace Go.Proofs.Ytdglobonbhkheaa
open Go.ChangeShapes Go.WideShapes Go.ChangeAt Go.RowKit

/-- so many bytes, the lowest first -/
def lb : Nat → Int → List Int
  | 0, _ => []
  | k + 1, n => n % 256 :: lb k (n / 256)
theorem lb_len : ∀ (k : Nat) (n : Int), (lb k n).length = k
  | 0, _ => rfl
  | k + 1, n => by simp [lb, lb_len k]
theorem lb_snoc : ∀ (k : Nat) (n : Int), lb (k + 1) n = lb k n ++ [n / 256 ^ k % 256]
  | 0, n => by simp [lb]
  | k + 1, n => by
    have ih := lb_snoc k (n / 256)
    rw [show lb (k + 1 + 1) n = n % 256 :: lb (k + 1) (n / 256) from rfl, ih]
    rw [show lb (k + 1) n = n % 256 :: lb k (n / 256) from rfl]
    have e : n / 256 / 256 ^ k = n / 256 ^ (k + 1) := by
      rw [Int.pow_succ, Int.mul_comm, Int.ediv_ediv_of_nonneg (by omega)]
    rw [e]
    rfl

/-- what is refused -/
def ltlNo (n k : Int) : Prop := k < 0 ∨ 8 < k ∨ 8 * k < Lib.bitLen n.toNat

theorem slice_int {a : Value} {b c : Int} (h : b = c) : Ending.returned (.tuple #[a, .int .i64 b]) = .returned (.tuple #[a, .int .i64 c]) := by rw [h]

set_option maxRecDepth 100000 in
set_option maxHeartbeats 1000000 in
theorem little_no (n k : Int) (w : World) (h0 : 0 ≤ n) (h1 : n ≤ 18446744073709551615) (hn : ltlNo n k) :
    Calls Try.prog 66 #[.int .u64 n, .int .i64 k] w fun e w' => e = .returned (.tuple #[.slice none 0 0, .int .i64 2]) ∧ w' = w := by
  have hb := bl_le64 n.toNat (by omega)
  by_cases c1 : k < 0
  · go_enter Try.func66, Try.ntmps66
    go_wp2_with (first | (go_at_call 82; refine (width_any _ _ h0 h1).mono ?_; rintro e w' ⟨rfl, rfl⟩) | go_in)
    go_ret2
    exact ⟨rfl, rfl⟩
  by_cases c2 : 8 < k
  · go_enter Try.func66, Try.ntmps66
    go_wp2_with (first | (go_at_call 82; refine (width_any _ _ h0 h1).mono ?_; rintro e w' ⟨rfl, rfl⟩) | go_in)
    go_ret2
    exact ⟨rfl, rfl⟩
  have c3 : 8 * k < Lib.bitLen n.toNat := by rcases hn with h | h | h <;> omega
  clear hn
  go_enter Try.func66, Try.ntmps66
  go_wp2_with (first | (go_at_call 82; refine (width_any _ _ h0 h1).mono ?_; rintro e w' ⟨rfl, rfl⟩) | go_in)
  go_ret2
  exact ⟨rfl, rfl⟩

theorem set_mid {α : Type} (l : List α) (x u : α) (m : Nat) : (l ++ List.replicate (m + 1) x).set l.length u = (l ++ [u]) ++ List.replicate m x := by
  rw [List.set_append_right _ _ (Nat.le_refl _)]
  simp [List.replicate_succ]

theorem ltl_step {w wr : World} {n m : Int} {k j : Nat} (hj : j < k) (hm : m = n / 256 ^ j)
    (hown : wr.ownsRow w.heap.size 5 1 (.slice (some ⟨w.heap.size, 0, none⟩) k k) k ((lb j n ++ List.replicate (k - j) 0).map (Value.int .u8))) (hnx : Below w.heap.size w wr) :
    (wr.setCell ⟨w.heap.size, j, none⟩ (.int .u8 (m % 256))).ownsRow w.heap.size 5 1 (.slice (some ⟨w.heap.size, 0, none⟩) k k) k ((lb (j + 1) n ++ List.replicate (k - (j + 1)) 0).map (Value.int .u8)) ∧
      Below w.heap.size w (wr.setCell ⟨w.heap.size, j, none⟩ (.int .u8 (m % 256))) := by
  refine ⟨?_, hnx.setCell (p := ⟨w.heap.size, j, none⟩) (Nat.le_refl _) _⟩
  have e := (hown.stored j (.int .u8 (m % 256))).1
  rw [← List.map_set, show k - j = (k - (j + 1)) + 1 from by omega] at e
  have e2 := set_mid (lb j n) 0 (m % 256) (k - (j + 1))
  rw [lb_len] at e2
  rw [e2, hm, ← lb_snoc] at e
  rw [hm]
  exact e

theorem div_next (n m : Int) (j : Nat) (hm : m = n / 256 ^ j) : m / 256 = n / 256 ^ (j + 1) := by
  rw [hm, Int.pow_succ, Int.ediv_ediv_of_nonneg (Int.pow_nonneg (by omega))]

set_option maxRecDepth 100000 in
set_option maxHeartbeats 1000000 in
theorem little_yes (n : Int) (k : Nat) (w : World) (h0 : 0 ≤ n) (h1 : n ≤ 18446744073709551615) (hn : ¬ ltlNo n k) :
    Calls Try.prog 66 #[.int .u64 n, .int .i64 k] w fun e w' => ∃ v, e = .returned (.tuple #[v, .int .i64 0]) ∧ w'.ownsRow w.heap.size 5 1 v k ((lb k n).map (Value.int .u8)) ∧ Below w.heap.size w w' := by
  obtain ⟨i0, hi, hz0, hz1, hz2⟩ := info_parts Try.info5
  have c1 : (k : Int) ≤ 8 := by unfold ltlNo at hn; omega
  have c3 : (Lib.bitLen n.toNat : Int) ≤ 8 * k := by unfold ltlNo at hn; omega
  clear hn
  go_enter Try.func66, Try.ntmps66
  go_wp2_with (first | (go_at_call 82; refine (width_any _ _ h0 h1).mono ?_; rintro e wx ⟨rfl, hwx⟩; obtain rfl := hwx.symm) | (at_make; refine wpList_make_full _ rfl _ _ 27 rfl w.heap.size 5 i0 (.int .u8 0) 1 Try.underlying27 hi hz0 hz1 _ _ _ _ k rfl rfl rfl rfl (by rw [hz2]; omega) (by unfold maxLen; omega) (Nat.le_refl _) ?_; intro w1 hown1 hgrow1) | go_in)
  have hgb : Below w.heap.size w w1 := (Below.refl _ w).grown hgrow1 (Nat.le_refl _) (fun _ e => by cases e)
  clear hgrow1
  rw [made_zero] at hown1
  go_loopw [0, 22] (fun q c wr => ∃ (j : Nat) (m : Int), j ≤ k ∧ c = .int .i64 j ∧ q = .int .u64 m ∧ 0 ≤ m ∧ m ≤ 18446744073709551615 ∧ Hid (m = n / 256 ^ j) ∧ wr.ownsRow w.heap.size 5 1 (.slice (some ⟨w.heap.size, 0, none⟩) k k) k ((lb j n ++ List.replicate (k - j) 0).map (Value.int .u8)) ∧ Below w.heap.size w wr)
    (fun _ c _ => k - (intOf c).toNat)
  case atStart => exact ⟨0, n, Nat.zero_le _, rfl, rfl, h0, h1, by show n = n / 256 ^ 0; simp, by simpa [lb] using hown1, hgb⟩
  case round =>
    obtain ⟨j, m, hj, rfl, rfl, hm0, hm1, H, hown, hnx⟩ := hrel
    clear hown1 hgb
    by_cases hlt : j < k
    · have hcj : wr.cell? ⟨w.heap.size, j, none⟩ = some (.int .u8 0) := by
        rw [hown.cellAt j (by omega)]
        simp [List.getElem?_append_right, lb_len, List.getElem?_replicate]
        omega
      have hfj := hown.frozenAt j
      have hlt' : (j : Int) < (k : Int) := by omega
      have R := ltl_step hlt H.out hown hnx
      have HR : Hid _ := R
      clear R hown
      go_wp2
      go_roundw
      case rel => exact ⟨j + 1, m / 256, by omega, by go_num, rfl, by omega, by omega, div_next n m j H.out, HR.out.1, HR.out.2⟩
      case measure => simp [intOf]; omega
    · have hlt' : (k : Int) ≤ (j : Int) := by omega
      have hjk : j = k := by omega
      subst hjk
      go_wp2
      go_ret2
      exact ⟨_, rfl, by simpa using hown, hnx⟩

end Go.Proofs.Ytdglobonbhkheaa
