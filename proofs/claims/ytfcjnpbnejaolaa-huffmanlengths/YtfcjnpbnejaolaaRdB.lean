/-
  huffman: weight, firstCodes, codesRefusal, Weigh.
-/
import Derived.Test.YtfcjnpbnejaolaaRdA
namespace Go.Proofs.Ytfcjnpbnejaolaa
set_option linter.unusedVariables false
set_option linter.unusedSimpArgs false
open Go.ChangeShapes Go.WideShapes Go.ChangeAt Go.RowKit

theorem sizeI (W : World) : (sizeOf 3).run Try.prog W = .ok 1 W := by kernel_rfl
theorem aggI (W : World) : (isAgg 3).run Try.prog W = .ok false W := by kernel_rfl
/-- an element of an array that is a value -/
theorem index16 {C : List Value} {k q : Nat} (hk : k < 16) (h : C[k]? = some (.int .i64 (q : Int))) (W : World) :
    Sem.run Try.prog (Instr.index 65 (.agg C.toArray) (.int .i64 (k : Int))) W = .ok (.int .i64 (q : Int)) W := by
  have h1 : (0 : Int) ≤ (k : Int) ∧ (k : Int) < 16 := by omega
  have hu := run_underlying Try.underlying65 W
  simp [Instr.index, asIntOf, Sem.run_bind, hu, h1, part, sizeI, aggI, h]
  intro h'
  omega

set_option maxRecDepth 100000 in
set_option maxHeartbeats 1000000 in
theorem weight_any (w : World) (a : Option Addr) (len cap : Nat) (m : List Nat) (hs : Src w a len cap (cn m)) (h15 : ∀ x ∈ m, x ≤ 15) (hlen : len ≤ 1000) :
    Calls Try.prog 27 #[.slice a len cap] w fun e w' => e = .returned (.int .i64 (wgt m)) ∧ Below w.heap.size w w' := by
  have hl : m.length = len := by have := hs.1; rwa [cn_len] at this
  have K := perLength_any w a len cap m hs h15 hlen
  have HSM : Hid (∀ j, j ≤ 16 → hor m j ≤ 65536000) := fun j hj => hor_small m (by omega) j hj
  have HP : Hid (∀ j, j < 16 → (cn (perL m))[j]? = some (.int .i64 ((per m j : Nat) : Int)) ∧ per m j ≤ 1000) := fun j hj => ⟨by rw [cn_get (by rw [perL_len]; exact hj), perL_getD m j hj], by have := per_le m j; omega⟩
  have HZ : (cn (perL m)).length = 16 := by rw [cn_len, perL_len]
  clear hs h15 hl
  go_enter Try.func27, Try.ntmps27
  go_wp2_with fail
  refine K.mono ?_
  rintro e w1 ⟨rfl, hb⟩
  clear K
  go_wp2_with fail
  go_loop [3, 8] (fun s c => ∃ k : Nat, k ≤ 16 ∧ c = .int .i64 k ∧ s = .int .i64 (hor m k)) (fun _ c => 16 - (intOf c).toNat)
  case atStart => exact ⟨0, Nat.zero_le _, rfl, rfl⟩
  case round =>
    obtain ⟨k, hk, rfl, rfl⟩ := hrel
    by_cases hlt : k < 16
    · have hlt' : (k : Int) < 16 := by omega
      obtain ⟨hp, hpl⟩ := HP.out k hlt
      have hh := HSM.out k hk
      have HR : Hid (hor m (k + 1) = 2 * hor m k + per m k) := rfl
      generalize cn (perL m) = C at *
      generalize per m k = q at *
      generalize hor m k = h at *
      have hq : (q : Int) ≤ 1000 := by omega
      have hh' : (h : Int) ≤ 65536000 := by omega
      have hix := index16 hlt hp
      go_wp2_with fail
      go_round
      case rel => exact ⟨k + 1, by omega, by go_num, by rw [HR.out]; go_num⟩
      case measure => simp [intOf]; omega
    · have hge : (16 : Int) ≤ (k : Int) := by omega
      have HK : Hid (k = 16) := by show _ = _; omega
      have HW : Hid (wgt m = hor m k) := by show _ = _; rw [HK.out]; rfl
      go_wp2_with fail
      go_ret
      exact ⟨by rw [HW.out]; rfl, hb⟩
/-- the first codes, as a list -/
def fstL (m : List Nat) : List Nat := (List.range 16).map (fun j => 2 * hor m j)
theorem fstL_len (m : List Nat) : (fstL m).length = 16 := by simp [fstL]
theorem fstL_getD (m : List Nat) (j : Nat) (h : j < 16) : (fstL m).getD j 0 = 2 * hor m j := range_getD _ 16 j h
/-- so far -/
def fsoL (m : List Nat) (k : Nat) : List Nat := (List.range 16).map (fun j => if j < k then 2 * hor m j else 0)
theorem fsoL_len (m : List Nat) (k : Nat) : (fsoL m k).length = 16 := by simp [fsoL]
theorem fsoL_succ (m : List Nat) (k : Nat) (hk : k < 16) : (fsoL m k).set k (2 * hor m k) = fsoL m (k + 1) := by
  unfold fsoL
  apply List.ext_getElem?
  intro j
  rw [List.getElem?_set]
  by_cases hj : j < 16
  · by_cases e : k = j
    · subst e
      simp [hj]
    · simp [e, hj]
      by_cases h1 : j < k
      · simp [h1, show j < k + 1 from by omega]
      · simp [h1, show ¬ j < k + 1 from by omega]
  · by_cases e : k = j
    · omega
    · simp [e, hj]
theorem fsoL_end (m : List Nat) : fsoL m 16 = fstL m := by
  unfold fsoL fstL
  refine List.map_congr_left fun j hj => ?_
  rw [if_pos (by simpa using hj)]
theorem fsoL_zero (m : List Nat) : cn (cntL []) = cn (fsoL m 0) := by
  have : cntL [] = fsoL m 0 := by
    unfold cntL fsoL
    exact List.map_congr_left fun j hj => by simp
  rw [this]

set_option maxRecDepth 100000 in
set_option maxHeartbeats 1000000 in
theorem firstCodes_any (w : World) (a : Option Addr) (len cap : Nat) (m : List Nat) (hs : Src w a len cap (cn m)) (h15 : ∀ x ∈ m, x ≤ 15) (hlen : len ≤ 1000) :
    Calls Try.prog 37 #[.slice a len cap] w fun e w' => e = .returned (.agg (cn (fstL m)).toArray) ∧ Below w.heap.size w w' := by
  have hl : m.length = len := by have := hs.1; rwa [cn_len] at this
  have K := fun W (hW : Below w.heap.size w W) => perLength_any W a len cap m (hs.later hW) h15 hlen
  have HSM : Hid (∀ j, j ≤ 16 → hor m j ≤ 65536000) := fun j hj => hor_small m (by omega) j hj
  have HP : Hid (∀ j, j < 16 → (cn (perL m))[j]? = some (.int .i64 ((per m j : Nat) : Int)) ∧ per m j ≤ 1000) := fun j hj => ⟨by rw [cn_get (by rw [perL_len]; exact hj), perL_getD m j hj], by have := per_le m j; omega⟩
  have HZ : (cn (perL m)).length = 16 := by rw [cn_len, perL_len]
  clear hs h15 hl
  go_enter Try.func37, Try.ntmps37
  go_wp2_with fail
  simp only [zero16, fsoL_zero m]
  have B2 : Below w.heap.size w ((w.alloc (.cells (cn (fsoL m 0)).toArray 65)).alloc (.cells (cn (fsoL m 0)).toArray 65)) := ((Below.refl _ w).alloc (Nat.le_refl _) _).alloc (by simp) _
  have A2 : Arr ((w.alloc (.cells (cn (fsoL m 0)).toArray 65)).alloc (.cells (cn (fsoL m 0)).toArray 65)) (w.heap.size + 1) (fsoL m 0) := by
    have h := heap_new (w.alloc (.cells (cn (fsoL m 0)).toArray 65)) (.cells (cn (fsoL m 0)).toArray 65)
    have e : (w.alloc (.cells (cn (fsoL m 0)).toArray 65)).heap.size = w.heap.size + 1 := by simp
    rwa [e] at h
  have A1 : Arr ((w.alloc (.cells (cn (fsoL m 0)).toArray 65)).alloc (.cells (cn (fsoL m 0)).toArray 65)) w.heap.size (fsoL m 0) := (Below.heap_alloc _ _ _ (by simp)).trans (heap_new w _)
  generalize (w.alloc (.cells (cn (fsoL m 0)).toArray 65)).alloc (.cells (cn (fsoL m 0)).toArray 65) = W2 at A1 A2 B2 ⊢
  refine (K W2 B2).mono ?_
  rintro e w1 ⟨rfl, hb⟩
  have B3 := B2.trans (hb.mono B2.size)
  have A3 : Arr w1 (w.heap.size + 1) (fsoL m 0) := below_at hb A2
  have A4 : Arr w1 w.heap.size (fsoL m 0) := below_at hb A1
  clear K A1 A2 B2 hb
  go_wp2_with fail
  go_loopw [4, 9] (fun s c wr => ∃ k : Nat, k ≤ 16 ∧ c = .int .i64 k ∧ s = .int .i64 (hor m k) ∧ Hid (Arr wr (w.heap.size + 1) (fsoL m k) ∧ Arr wr w.heap.size (fsoL m 0)) ∧ Below w.heap.size w wr) (fun _ c _ => 16 - (intOf c).toNat)
  case atStart => exact ⟨0, Nat.zero_le _, rfl, rfl, ⟨A3, A4⟩, B3⟩
  case round =>
    clear A3 A4 B3
    obtain ⟨k, hk, rfl, rfl, HA, hB⟩ := hrel
    by_cases hlt : k < 16
    · have hlt' : (k : Int) < 16 := by omega
      obtain ⟨hp, hpl⟩ := HP.out k hlt
      have hh := HSM.out k hk
      have HR : Hid (hor m (k + 1) = 2 * hor m k + per m k) := rfl
      have ca := HA.out.1.cell (j := k) (by rw [fsoL_len]; omega)
      have fa := HA.out.1.frozen k
      have HN : Hid (∀ M : Int, M = ((2 * hor m k : Nat) : Int) → Arr (wr.setCell ⟨w.heap.size + 1, k, none⟩ (.int .i64 M)) (w.heap.size + 1) (fsoL m (k + 1)) ∧ Arr (wr.setCell ⟨w.heap.size + 1, k, none⟩ (.int .i64 M)) w.heap.size (fsoL m 0)) := by
        intro M hM
        subst hM
        refine ⟨?_, (Below.heap_setCell wr ⟨w.heap.size + 1, k, none⟩ _ w.heap.size (by simp)).trans HA.out.2⟩
        have h := HA.out.1.set k (2 * hor m k)
        rw [fsoL_succ _ _ hlt] at h
        exact h
      generalize cn (perL m) = C at *
      generalize per m k = q at *
      generalize hor m k = h at *
      have hq : (q : Int) ≤ 1000 := by omega
      have hh' : (h : Int) ≤ 65536000 := by omega
      have hix := index16 hlt hp
      clear HA
      go_wp2_with fail
      go_roundw
      case rel => exact ⟨k + 1, by omega, by go_num, by rw [HR.out]; go_num, HN.out _ (by omega), hB.setCell (p := ⟨w.heap.size + 1, k, none⟩) (by simp) _⟩
      case measure => simp [intOf]; omega
    · have hge : (16 : Int) ≤ (k : Int) := by omega
      have HK : Hid (k = 16) := by show _ = _; omega
      have A3 : Arr wr (w.heap.size + 1) (fstL m) := by have := HA.out.1; rw [HK.out, fsoL_end] at this; exact this
      have A4 := HA.out.2
      have HI := info16 (fstL_len m)
      have HO := size16 (fsoL_len m 0) (fstL_len m)
      clear HA HK
      go_wp2_with (first | (refine wpList_load_row rfl 65 (.tmp 3) rfl (w.heap.size + 1) rfl 65 (cn (fstL m)).toArray (0, 0) (.array 16 3) A3 Try.underlying65 rfl HI ?_) | (refine wpList_store_row rfl 65 (.tmp 2) (.tmp 22) rfl w.heap.size (cn (fstL m)).toArray rfl rfl 65 (cn (fsoL m 0)).toArray A4 HI HO (cn_all _) ?_))
      refine bodyPost_ret (results_cell_row rfl _ _ w.heap.size 65 (cn (fstL m)).toArray (0, 0) (.array 16 3) rfl (setRow_heap _ _ _ _ _ _ A4) Try.underlying65 rfl HI) rfl ⟨rfl, below_setRow hB (Nat.le_refl _) _⟩

/-- numbers that may be are numbers from 0 on -/
theorem refu_ok {most : Int} {l : List Int} (h : refu most l = 0) : l.length ≤ 1000 ∧ ∃ m : List Nat, l = nm m ∧ ∀ x ∈ m, (x : Int) ≤ most := by
  unfold refu at h
  by_cases h1 : l.any (bad most) = true
  · rw [if_pos h1] at h; omega
  · rw [if_neg h1] at h
    by_cases h2 : 1000 < l.length
    · rw [if_pos h2] at h; omega
    · have hb : ∀ x ∈ l, 0 ≤ x ∧ x ≤ most := by
        intro x hx
        have : ¬ bad most x = true := fun e => h1 (List.any_eq_true.2 ⟨x, hx, e⟩)
        unfold bad at this
        simp at this
        omega
      refine ⟨by omega, l.map Int.toNat, ?_, ?_⟩
      · unfold nm
        rw [List.map_map]
        conv => lhs; rw [← List.map_id l]
        refine List.map_congr_left fun x hx => ?_
        have := hb x hx
        simp
        omega
      · intro y hy
        obtain ⟨x, hx, rfl⟩ := List.mem_map.1 hy
        have := hb x hx
        omega
/-- why lengths have no codes -/
def refC (l : List Int) : Int := if refu 15 l ≠ 0 then refu 15 l else if 32768 < wgt (l.map Int.toNat) then 150 else 0
theorem nm_toNat (m : List Nat) : (nm m).map Int.toNat = m := by
  unfold nm
  rw [List.map_map]
  conv => rhs; rw [← List.map_id m]
  exact List.map_congr_left fun x _ => by simp

set_option maxHeartbeats 1000000 in
theorem codesRefusal_any (w : World) (a : Option Addr) (len cap : Nat) (l : List Int) (hs : Src w a len cap (ci l)) (hlen : len ≤ 17592186044416) :
    Calls Try.prog 25 #[.slice a len cap] w fun e w' => e = .returned (.int .i64 (refC l)) ∧ Below w.heap.size w w' := by
  have K := refusal_any w a len cap l 15 hs hlen
  have hl : l.length = len := by have := hs.1; rwa [ci_len] at this
  by_cases h0 : refu 15 l = 0
  · have HC : Hid (refC l = if 32768 < wgt (l.map Int.toNat) then 150 else 0) := by show _ = _; unfold refC; rw [if_neg (by omega)]
    obtain ⟨h1, m, rfl, h2⟩ := refu_ok h0
    rw [nm_toNat] at HC
    have K2 := weight_any w a len cap m hs (fun x hx => by have := h2 x hx; omega) (by omega)
    rw [h0] at K
    clear h0 hs h1 h2 hl
    generalize wgt m = q at *
    go_enter Try.func25, Try.ntmps25
    go_wp2_with fail
    refine K.mono ?_
    rintro e wx ⟨rfl, hwx⟩
    obtain rfl := hwx.symm
    go_wp2_with fail
    refine K2.mono ?_
    rintro e w2 ⟨rfl, hb⟩
    by_cases hq : 32768 < q
    · have hq' : (32768 : Int) < (q : Int) := by omega
      go_wp2_with fail
      go_ret
      exact ⟨by rw [HC.out, if_pos hq]; rfl, hb⟩
    · have hq' : ¬ (32768 : Int) < (q : Int) := by omega
      go_wp2_with fail
      go_ret
      exact ⟨by rw [HC.out, if_neg hq]; rfl, hb⟩
  · have HC : Hid (refC l = refu 15 l) := by show _ = _; unfold refC; rw [if_pos h0]
    generalize refu 15 l = q at *
    have h0' : (q == 0) = false := by simpa using h0
    clear h0
    go_enter Try.func25, Try.ntmps25
    go_wp2_with fail
    refine K.mono ?_
    rintro e wx ⟨rfl, hwx⟩
    obtain rfl := hwx.symm
    go_wp2_with fail
    go_ret
    exact ⟨by rw [HC.out]; rfl, Below.refl _ _⟩

/-- what Weigh answers -/
def weiV (l : List Int) : Int := if refu 15 l ≠ 0 then 0 else wgt (l.map Int.toNat)
set_option maxHeartbeats 1000000 in
theorem weigh_any (w : World) (a : Option Addr) (len cap : Nat) (l : List Int) (hs : Src w a len cap (ci l)) (hlen : len ≤ 17592186044416) :
    Calls Try.prog 15 #[.slice a len cap] w fun e w' => e = .returned (.tuple #[.int .i64 (weiV l), .int .i64 (refu 15 l)]) ∧ Below w.heap.size w w' := by
  have K := refusal_any w a len cap l 15 hs hlen
  have hl : l.length = len := by have := hs.1; rwa [ci_len] at this
  by_cases h0 : refu 15 l = 0
  · have HC : Hid (weiV l = wgt (l.map Int.toNat)) := by show _ = _; unfold weiV; rw [if_neg (by omega)]
    have HR : Hid (refu 15 l = 0) := h0
    obtain ⟨h1, m, rfl, h2⟩ := refu_ok h0
    rw [nm_toNat] at HC
    have K2 := weight_any w a len cap m hs (fun x hx => by have := h2 x hx; omega) (by omega)
    rw [h0] at K
    clear h0 hs h1 h2 hl
    generalize wgt m = q at *
    go_enter Try.func15, Try.ntmps15
    go_wp2_with fail
    refine K.mono ?_
    rintro e wx ⟨rfl, hwx⟩
    obtain rfl := hwx.symm
    go_wp2_with fail
    refine K2.mono ?_
    rintro e w2 ⟨rfl, hb⟩
    go_wp2_with fail
    go_ret2
    exact ⟨by rw [HC.out, HR.out]; rfl, hb⟩
  · have HC : Hid (weiV l = 0) := by show _ = _; unfold weiV; rw [if_pos h0]
    generalize refu 15 l = q at *
    have h0' : (q == 0) = false := by simpa using h0
    clear h0
    go_enter Try.func15, Try.ntmps15
    go_wp2_with fail
    refine K.mono ?_
    rintro e wx ⟨rfl, hwx⟩
    obtain rfl := hwx.symm
    go_wp2_with fail
    go_ret2
    exact ⟨by rw [HC.out]; rfl, Below.refl _ _⟩
end Go.Proofs.Ytfcjnpbnejaolaa
