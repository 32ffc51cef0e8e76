/-
  huffman: refusal, perLength, weight.
-/
import Derived.Test.YtfcjnpbnejaolaaBase
import Derived.Test.YtfcjnpbnejaolaaMath
import Derived.Deep.MidRow
import Derived.Laws.CopyOwn
import Derived.Deep.QuietTactic
import Derived.BigQuiet
namespace Go.Proofs.Ytfcjnpbnejaolaa
set_option linter.unusedVariables false
set_option linter.unusedSimpArgs false
open Go.ChangeShapes Go.WideShapes Go.ChangeAt Go.RowKit

/-- a number that may not be -/
def bad (most x : Int) : Bool := decide (x < 0 ∨ most < x)
/-- why there may be no such numbers -/
def refu (most : Int) (l : List Int) : Int := if l.any (bad most) then 2 else if 1000 < l.length then 3 else 0

theorem any_take {p : Int → Bool} {l : List Int} {k : Nat} (hk : k < l.length) (h : (l.take k).any p = false) : (l.take (k + 1)).any p = p (l.getD k 0) := by
  rw [List.take_succ_eq_append_getElem hk, List.any_append, h]
  simp [List.getD, List.getElem?_eq_getElem hk]

set_option maxHeartbeats 1000000 in
theorem refusal_any (w : World) (a : Option Addr) (len cap : Nat) (l : List Int) (most : Int) (hs : Src w a len cap (ci l)) (hlen : len ≤ 17592186044416) :
    Calls Try.prog 18 #[.slice a len cap, .int .i64 most] w fun e w' => e = .returned (.int .i64 (refu most l)) ∧ w' = w := by
  have hl : l.length = len := by have := hs.1; rwa [ci_len] at this
  have hlen' : (len : Int) ≤ 17592186044416 := by omega
  have HS : Hid (∀ k, k < len → ∃ g off, a = some ⟨g, off, none⟩ ∧ w.cell? ⟨g, off + k, none⟩ = some (.int .i64 (l.getD k 0))) := fun k hk => src_at hs hk
  have HL : Hid (l.length = len) := hl
  clear hs hl
  go_enter Try.func18, Try.ntmps18
  go_wp2
  go_loop [9] (fun c => ∃ k : Nat, k ≤ len ∧ c = .int .i64 k ∧ Hid ((l.take k).any (bad most) = false)) (fun c => len - (intOf c).toNat)
  case atStart => exact ⟨0, Nat.zero_le _, rfl, by show _ = _; simp⟩
  case round =>
    obtain ⟨k, hk, rfl, HA⟩ := hrel
    by_cases hlt : k < len
    · have hlt' : (k : Int) < (len : Int) := by omega
      obtain ⟨g, off, rfl, hc⟩ := HS.out k hlt
      have HN : Hid ((l.take (k + 1)).any (bad most) = bad most (l.getD k 0)) := any_take (by rw [HL.out]; exact hlt) HA.out
      generalize l.getD k 0 = x at *
      by_cases h1 : x < 0
      · have HB : Hid (refu most l = 2) := by
          show _ = _
          have h2 : l.any (bad most) = true := by
            have h3 := HN.out
            rw [show bad most x = true from by unfold bad; simp; omega] at h3
            obtain ⟨y, hy, hb⟩ := List.any_eq_true.1 h3
            exact List.any_eq_true.2 ⟨y, List.mem_of_mem_take hy, hb⟩
          unfold refu
          rw [if_pos h2]
        go_wp2
        go_ret
        exact ⟨by rw [HB.out]; rfl, rfl⟩
      · by_cases h2 : most < x
        · have HB : Hid (refu most l = 2) := by
            show _ = _
            have h2 : l.any (bad most) = true := by
              have h3 := HN.out
              rw [show bad most x = true from by unfold bad; simp; omega] at h3
              obtain ⟨y, hy, hb⟩ := List.any_eq_true.1 h3
              exact List.any_eq_true.2 ⟨y, List.mem_of_mem_take hy, hb⟩
            unfold refu
            rw [if_pos h2]
          go_wp2
          go_ret
          exact ⟨by rw [HB.out]; rfl, rfl⟩
        · have h2' : x ≤ most := by omega
          have HB : Hid ((l.take (k + 1)).any (bad most) = false) := by
            show _ = _
            rw [HN.out]
            unfold bad
            simp
            omega
          go_wp2
          go_round
          case rel => exact ⟨k + 1, by omega, by go_num, HB⟩
          case measure => simp [intOf]; omega
    · have hge : (len : Int) ≤ (k : Int) := by omega
      have HB : Hid (refu most l = if 1000 < len then 3 else 0) := by
        show _ = _
        unfold refu
        have h3 := HA.out
        rw [List.take_of_length_le (by rw [HL.out]; omega)] at h3
        rw [h3, HL.out]
        simp
      by_cases h1 : 1000 < len
      · have h1' : (1000 : Int) < (len : Int) := by omega
        go_wp2
        go_ret
        exact ⟨by rw [HB.out, if_pos h1]; rfl, rfl⟩
      · have h1' : (len : Int) ≤ 1000 := by omega
        go_wp2
        go_ret
        exact ⟨by rw [HB.out, if_neg h1]; rfl, rfl⟩

/-- how many symbols have codes of each length, as a list -/
def perL (m : List Nat) : List Nat := (List.range 16).map (per m)
def cntL (m : List Nat) : List Nat := (List.range 16).map (fun j => m.count j)
theorem cntL_len (m : List Nat) : (cntL m).length = 16 := by simp [cntL]
theorem perL_len (m : List Nat) : (perL m).length = 16 := by simp [perL]
theorem range_getD (f : Nat → Nat) (n j : Nat) (h : j < n) : ((List.range n).map f).getD j 0 = f j := by
  simp [List.getD, h]
theorem cntL_getD (m : List Nat) (j : Nat) (h : j < 16) : (cntL m).getD j 0 = m.count j := range_getD _ 16 j h
theorem perL_getD (m : List Nat) (j : Nat) (h : j < 16) : (perL m).getD j 0 = per m j := range_getD _ 16 j h
theorem cntL_snoc (m : List Nat) (x : Nat) (hx : x < 16) : (cntL m).set x (m.count x + 1) = cntL (m ++ [x]) := by
  unfold cntL
  apply List.ext_getElem?
  intro j
  rw [List.getElem?_set]
  by_cases hj : j < 16
  · by_cases e : x = j
    · subst e
      simp [hj, List.count_append]
    · simp [e, hj, List.count_append, List.count_singleton]
  · by_cases e : x = j
    · omega
    · simp [e, hj]
theorem cntL_zero (m : List Nat) : (cntL m).set 0 0 = perL m := by
  unfold cntL perL
  apply List.ext_getElem?
  intro j
  rw [List.getElem?_set]
  by_cases hj : j < 16
  · by_cases e : 0 = j
    · subst e
      simp [per]
    · simp [e, hj, per]
      intro h; omega
  · by_cases e : 0 = j
    · omega
    · simp [e, hj]
/-- an array of numbers in a block of its own -/
def Arr (W : World) (B : Nat) (l : List Nat) : Prop := W.heap[B]? = some (.cells (cn l).toArray 65 (0, 0))
theorem Arr.cell {W : World} {B : Nat} {l : List Nat} (h : Arr W B l) {j : Nat} (hj : j < l.length) : W.cell? ⟨B, j, none⟩ = some (.int .i64 ((l.getD j 0 : Nat) : Int)) :=
  cell_of_block h (by rw [List.getElem?_toArray]; exact cn_get hj)
theorem Arr.frozen {W : World} {B : Nat} {l : List Nat} (h : Arr W B l) (j : Nat) : W.frozen? ⟨B, j, none⟩ = false := frozen_of_block h
theorem Arr.set {W : World} {B : Nat} {l : List Nat} (h : Arr W B l) (j x : Nat) : Arr (W.setCell ⟨B, j, none⟩ (.int .i64 (x : Int))) B (l.set j x) := by
  unfold Arr at *
  rw [set_block h, ← cn_set]
  simp
theorem Arr.lt {W : World} {B : Nat} {l : List Nat} (h : Arr W B l) : B < W.heap.size := (Array.getElem?_eq_some_iff.1 h).1
theorem Arr.load {W : World} {B : Nat} {l : List Nat} (h : Arr W B l) (hl : l.length = 16) : (Instr.loadAt 65 (.pointer (some ⟨B, 0, none⟩))).run Try.prog W = .ok (.agg (cn l).toArray) W := by
  refine run_loadAt_mid W B 0 65 (cn l) (.array 16 3) ?_ Try.underlying65 rfl (by rw [cn_len, hl]; kernel_rfl)
  intro j v hv
  rw [Nat.zero_add]
  exact cell_of_block h (by simpa using hv)
theorem info16 {l : List Nat} (hl : l.length = 16) : (Try.prog.info? 65).map (·.size) = some (cn l).toArray.size := by
  rw [List.size_toArray, cn_len, hl]
  kernel_rfl
theorem size16 {l k : List Nat} (hl : l.length = 16) (hk : k.length = 16) : (cn l).toArray.size = (cn k).toArray.size := by
  rw [List.size_toArray, cn_len, hl, List.size_toArray, cn_len, hk]
theorem cn_all (l : List Nat) : (cn l).toArray.all (·.oneCell') = true := by
  rw [Array.all_eq_true_iff_forall_mem]
  intro v hv
  exact cn_one l v (by simpa using hv)
theorem zero16 : (#[.int .i64 0, .int .i64 0, .int .i64 0, .int .i64 0, .int .i64 0, .int .i64 0, .int .i64 0, .int .i64 0, .int .i64 0, .int .i64 0, .int .i64 0, .int .i64 0, .int .i64 0, .int .i64 0, .int .i64 0, .int .i64 0] : Array Value) = (cn (cntL [])).toArray := by kernel_rfl

set_option maxRecDepth 100000 in
set_option maxHeartbeats 1000000 in
theorem perLength_any (w : World) (a : Option Addr) (len cap : Nat) (m : List Nat) (hs : Src w a len cap (cn m)) (h15 : ∀ x ∈ m, x ≤ 15) (hlen : len ≤ 1000) :
    Calls Try.prog 38 #[.slice a len cap] w fun e w' => e = .returned (.agg (cn (perL m)).toArray) ∧ Below w.heap.size w w' := by
  have hl : m.length = len := by have := hs.1; rwa [cn_len] at this
  have hlen' : (len : Int) ≤ 1000 := by omega
  have HS : Hid (∀ k, k < len → ∃ g off, a = some ⟨g, off, none⟩ ∧ g < w.heap.size ∧ w.cell? ⟨g, off + k, none⟩ = some (.int .i64 ((m.getD k 0 : Nat) : Int))) := fun k hk => by
    obtain ⟨g, off, e, hc⟩ := src_atn hs hk
    exact ⟨g, off, e, World.block_lt_of_cell? _ _ hc, hc⟩
  have HL : Hid (m.length = len) := hl
  have H15 : Hid (∀ k, m.getD k 0 ≤ 15) := fun k => by
    rcases Nat.lt_or_ge k m.length with h | h
    · rw [getD_eq h]; exact h15 _ (List.getElem_mem h)
    · simp [List.getD, List.getElem?_eq_none h]
  clear hs hl h15
  go_enter Try.func38, Try.ntmps38
  go_wp2
  simp only [zero16]
  have B2 : Below w.heap.size w ((w.alloc (.cells (cn (cntL [])).toArray 65)).alloc (.cells (cn (cntL [])).toArray 65)) := ((Below.refl _ w).alloc (Nat.le_refl _) _).alloc (by simp) _
  have A2 : Arr ((w.alloc (.cells (cn (cntL [])).toArray 65)).alloc (.cells (cn (cntL [])).toArray 65)) (w.heap.size + 1) (cntL []) := by
    have h := heap_new (w.alloc (.cells (cn (cntL [])).toArray 65)) (.cells (cn (cntL [])).toArray 65)
    have e : (w.alloc (.cells (cn (cntL [])).toArray 65)).heap.size = w.heap.size + 1 := by simp
    rwa [e] at h
  have A1 : Arr ((w.alloc (.cells (cn (cntL [])).toArray 65)).alloc (.cells (cn (cntL [])).toArray 65)) w.heap.size (cntL []) := (Below.heap_alloc _ _ _ (by simp)).trans (heap_new w _)
  generalize (w.alloc (.cells (cn (cntL [])).toArray 65)).alloc (.cells (cn (cntL [])).toArray 65) = W2 at A1 A2 B2 ⊢
  go_loopw [8] (fun c wr => ∃ k : Nat, k ≤ len ∧ c = .int .i64 k ∧ Hid (Arr wr (w.heap.size + 1) (cntL (m.take k)) ∧ Arr wr w.heap.size (cntL [])) ∧ Below w.heap.size w wr) (fun c _ => len - (intOf c).toNat)
  case atStart => exact ⟨0, Nat.zero_le _, rfl, ⟨by simpa using A2, A1⟩, B2⟩
  case round =>
    clear A1 A2 B2
    obtain ⟨k, hk, rfl, HA, hB⟩ := hrel
    by_cases hlt : k < len
    · have hlt' : (k : Int) < (len : Int) := by omega
      obtain ⟨g, off, rfl, hg, hc⟩ := HS.out k hlt
      have hc' := (hB.cell (p := ⟨g, off + k, none⟩) hg).trans hc
      have hx := H15.out k
      have HT : Hid (m.take (k + 1) = m.take k ++ [m.getD k 0]) := take_succ_getD m k (by rw [HL.out]; exact hlt)
      generalize m.getD k 0 = x at *
      have hx' : (x : Int) < 16 := by omega
      have ca := HA.out.1.cell (j := x) (by rw [cntL_len]; omega)
      rw [cntL_getD _ _ (by omega)] at ca
      have fa := HA.out.1.frozen x
      have HN : Hid (Arr (wr.setCell ⟨w.heap.size + 1, x, none⟩ (.int .i64 (((m.take k).count x : Nat) + 1))) (w.heap.size + 1) (cntL (m.take (k + 1))) ∧ Arr (wr.setCell ⟨w.heap.size + 1, x, none⟩ (.int .i64 (((m.take k).count x : Nat) + 1))) w.heap.size (cntL [])) := by
        refine ⟨?_, (Below.heap_setCell wr ⟨w.heap.size + 1, x, none⟩ _ w.heap.size (by simp)).trans HA.out.2⟩
        have h := HA.out.1.set x ((m.take k).count x + 1)
        rw [cntL_snoc _ _ (by omega), ← HT.out] at h
        exact h
      have hcnt : (m.take k).count x ≤ 1000 := by
        have : (m.take k).count x ≤ (m.take k).length := List.count_le_length
        rw [List.length_take] at this
        omega
      generalize (m.take k).count x = q at *
      have hq : (q : Int) ≤ 1000 := by omega
      clear hc HA HT
      go_wp2
      go_roundw
      case rel => exact ⟨k + 1, by omega, by go_num, HN, hB.setCell (p := ⟨w.heap.size + 1, x, none⟩) (by simp) _⟩
      case measure => simp [intOf]; omega
    · have hge : (len : Int) ≤ (k : Int) := by omega
      have HK : Hid (m.take k = m) := List.take_of_length_le (by rw [HL.out]; omega)
      rw [HK.out] at HA
      have c0 := HA.out.1.cell (j := 0) (by rw [cntL_len]; omega)
      have f0 := HA.out.1.frozen 0
      have A3 : Arr (wr.setCell ⟨w.heap.size + 1, 0, none⟩ (.int .i64 0)) (w.heap.size + 1) ((cntL m).set 0 0) := HA.out.1.set 0 0
      rw [cntL_zero] at A3
      have A4 : Arr (wr.setCell ⟨w.heap.size + 1, 0, none⟩ (.int .i64 0)) w.heap.size (cntL []) := (Below.heap_setCell wr ⟨w.heap.size + 1, 0, none⟩ _ w.heap.size (by simp)).trans HA.out.2
      have B3 := hB.setCell (p := ⟨w.heap.size + 1, 0, none⟩) (by simp) (.int .i64 0)
      have HI := info16 (perL_len m)
      have HO := size16 (cntL_len []) (perL_len m)
      clear HA HK
      go_wp2_with (first | (refine wpList_load_row rfl 65 (.tmp 3) rfl (w.heap.size + 1) rfl 65 (cn (perL m)).toArray (0, 0) (.array 16 3) A3 Try.underlying65 rfl HI ?_) | (refine wpList_store_row rfl 65 (.tmp 2) (.tmp 19) rfl w.heap.size (cn (perL m)).toArray rfl rfl 65 (cn (cntL [])).toArray A4 HI HO (cn_all _) ?_))
      refine bodyPost_ret (results_cell_row rfl _ _ w.heap.size 65 (cn (perL m)).toArray (0, 0) (.array 16 3) rfl (setRow_heap _ _ _ _ _ _ A4) Try.underlying65 rfl HI) rfl ⟨rfl, below_setRow B3 (Nat.le_refl _) _⟩
end Go.Proofs.Ytfcjnpbnejaolaa
