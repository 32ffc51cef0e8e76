/-
  Cost, and the reference's: the sum of count times length, at most 2 to the 62nd.
-/
import Derived.Test.YtfcjnpbnejaolaaLawA
import Derived.BigRegion
namespace Go.Proofs.Ytfcjnpbnejaolaa
set_option linter.unusedVariables false
set_option linter.unusedSimpArgs false
open Go.ChangeShapes Go.WideShapes Go.ChangeAt Go.RowKit

/-- the sum over the first k -/
def smK (a b : List Int) : Nat → Nat
  | 0 => 0
  | k + 1 => smK a b k + (a.getD k 0).toNat * (b.getD k 0).toNat
def costV (a b : List Int) : Int := (min 4611686018427387904 (smK a b (min a.length b.length)) : Nat)
theorem smK_mono (a b : List Int) : ∀ (d k : Nat), smK a b k ≤ smK a b (k + d)
  | 0, k => Nat.le_refl _
  | d + 1, k => by
    have := smK_mono a b d k
    rw [← Nat.add_assoc, smK]
    omega
theorem cost_over (a b : List Int) (k : Nat) (hk : k < min a.length b.length) (h : 4611686018427387904 < smK a b (k + 1)) : costV a b = 4611686018427387904 := by
  unfold costV
  have := smK_mono a b (min a.length b.length - (k + 1)) (k + 1)
  rw [show k + 1 + (min a.length b.length - (k + 1)) = min a.length b.length from by omega] at this
  omega
theorem cost_in (a b : List Int) (h : smK a b (min a.length b.length) ≤ 4611686018427387904) : costV a b = (smK a b (min a.length b.length) : Nat) := by
  unfold costV
  omega
/-- the test by division -/
theorem div_test (M x y : Nat) (hy : 0 < y) : M / y < x ↔ M < x * y := by
  rw [Nat.div_lt_iff_lt_mul hy]

set_option maxRecDepth 10000 in
set_option maxHeartbeats 4000000 in
theorem cost_any (w : World) (a b : Option Addr) (n m c d : Nat) (l k : List Int) (ha : Src w a n c (ci l)) (hb : Src w b m d (ci k)) (hn : n ≤ 17592186044416) (hm : m ≤ 17592186044416) (hl64 : ∀ j, l.getD j 0 ≤ 9223372036854775807) (hk64 : ∀ j, k.getD j 0 ≤ 9223372036854775807) :
    Calls Try.prog 17 #[.slice a n c, .slice b m d] w fun e w' => e = .returned (.int .i64 (costV l k)) ∧ Below w.heap.size w w' := by
  have hl : l.length = n := by have := ha.1; rwa [ci_len] at this
  have hk : k.length = m := by have := hb.1; rwa [ci_len] at this
  obtain ⟨s, hs⟩ : ∃ s, s = min n m := ⟨_, rfl⟩
  have hsi : min (n : Int) (m : Int) = (s : Int) := by omega
  have hs' : (s : Int) ≤ 17592186044416 := by omega
  have HA : Hid (∀ j, j < s → ∃ g off g2 off2, a = some ⟨g, off, none⟩ ∧ b = some ⟨g2, off2, none⟩ ∧ g < w.heap.size ∧ g2 < w.heap.size ∧ w.cell? ⟨g, off + j, none⟩ = some (.int .i64 (l.getD j 0)) ∧ w.cell? ⟨g2, off2 + j, none⟩ = some (.int .i64 (k.getD j 0)) ∧ (j : Int) < (n : Int) ∧ (j : Int) < (m : Int)) := fun j hj => by
    obtain ⟨g, off, e, hc⟩ := src_at ha (j := j) (by omega)
    obtain ⟨g2, off2, e2, hc2⟩ := src_at hb (j := j) (by omega)
    exact ⟨g, off, g2, off2, e, e2, World.block_lt_of_cell? _ _ hc, World.block_lt_of_cell? _ _ hc2, hc, hc2, by omega, by omega⟩
  refine calls_of fun Q HQ => ?_
  have QM : Hid (costV l k = 4611686018427387904 → ∀ w', Below w.heap.size w w' → Q (.returned (.int .i64 4611686018427387904)) w') := fun e w' h => HQ _ _ ⟨by rw [e], h⟩
  have QS : Hid (smK l k s ≤ 4611686018427387904 → ∀ w', Below w.heap.size w w' → Q (.returned (.int .i64 ((smK l k s : Nat) : Int))) w') := fun e w' h => HQ _ _ ⟨by rw [cost_in l k (by rw [hl, hk, ← hs]; exact e), hl, hk, ← hs], h⟩
  have HO : Hid (∀ j, j < s → 4611686018427387904 < smK l k (j + 1) → costV l k = 4611686018427387904) := fun j hj h => cost_over l k j (by rw [hl, hk, ← hs]; exact hj) h
  have H64 : Hid (∀ j, l.getD j 0 ≤ 9223372036854775807 ∧ k.getD j 0 ≤ 9223372036854775807) := fun j => ⟨hl64 j, hk64 j⟩
  clear ha hb hl hk hs HQ hl64 hk64
  go_enter Try.func17, Try.ntmps17
  go_wp2_with fail
  go_loopw [5, 14] (fun v i wr => ∃ j : Nat, j ≤ s ∧ i = .int .i64 j ∧ v = .int .i64 ((smK l k j : Nat) : Int) ∧ smK l k j ≤ 4611686018427387904 ∧ Below w.heap.size w wr) (fun _ i _ => s - (intOf i).toNat)
  case atStart => exact ⟨0, Nat.zero_le _, rfl, rfl, Nat.zero_le _, Below.refl _ _⟩
  case round =>
    obtain ⟨j, hj, rfl, rfl, hle, bel⟩ := hrel
    by_cases hlt : j < s
    · have hlt' : (j : Int) < (s : Int) := by omega
      obtain ⟨g, off, g2, off2, rfl, rfl, hg, hg2, q1, q2, i1, i2⟩ := HA.out j hlt
      have c1 := (bel.cell (p := ⟨g, off + j, none⟩) hg).trans q1
      have c2 := (bel.cell (p := ⟨g2, off2 + j, none⟩) hg2).trans q2
      have HS : Hid (smK l k (j + 1) = smK l k j + (l.getD j 0).toNat * (k.getD j 0).toNat) := rfl
      have h64 := H64.out j
      have HOj : Hid _ := HO.out j hlt
      generalize l.getD j 0 = x at *
      generalize k.getD j 0 = y at *
      obtain ⟨X, hX⟩ : ∃ X, X = x.toNat := ⟨_, rfl⟩
      obtain ⟨Y, hY⟩ : ∃ Y, Y = y.toNat := ⟨_, rfl⟩
      have mx : max x 0 = (X : Int) := by omega
      have my : max y 0 = (Y : Int) := by omega
      rw [← hX, ← hY] at HS
      have hX64 : (X : Int) ≤ 9223372036854775807 := by omega
      have hY64 : (Y : Int) ≤ 9223372036854775807 := by omega
      generalize smK l k j = q at *
      clear q1 q2 hX hY HO
      have hq : (q : Int) ≤ 4611686018427387904 := by omega
      go_wp2_with fail
      go_region
      have bel2 : Below w.heap.size w wr.drew := bel.drew
      generalize wr.drew = W2 at *
      clear c1 c2 mx my
      by_cases hY0 : Y = 0
      · subst hY0
        have HN : Hid (smK l k (j + 1) = q) := by show _ = _; rw [HS.out]; simp
        clear HS HOj
        have hY0' : ¬ (0 : Int) < 0 := by omega
        go_wp2_with fail
        go_roundw
        case rel => exact ⟨j + 1, by omega, by go_num, by rw [HN.out], by rw [HN.out]; exact hle, bel2⟩
        case measure => simp [intOf]; omega
      · have hYp : (0 : Int) < (Y : Int) := by omega
        obtain ⟨r, hr⟩ : ∃ r, r = 4611686018427387904 - q := ⟨_, rfl⟩
        have hri : 4611686018427387904 - (q : Int) = (r : Int) := by omega
        obtain ⟨D, hD⟩ : ∃ D, D = r / Y := ⟨_, rfl⟩
        have hDi : (r : Int) / (Y : Int) = (D : Int) := by rw [hD]; simp
        have hDt : (r : Int).tdiv (Y : Int) = (D : Int) := by rw [Int.tdiv_eq_ediv_of_nonneg (by omega)]; exact hDi
        have hY1 : ¬ (Y : Int) = 0 := by omega
        have hrl : (r : Int) ≤ 4611686018427387904 := by omega
        have hDl : (D : Int) ≤ 4611686018427387904 := by
          have : D ≤ r := by rw [hD]; exact Nat.div_le_self _ _
          omega
        have HT := div_test r X Y (by omega)
        rw [← hD] at HT
        by_cases hx : D < X
        · have hx' : (D : Int) < (X : Int) := by omega
          have HE : Hid (costV l k = 4611686018427387904) := HOj.out (by have := HT.1 hx; rw [HS.out]; omega)
          clear HS HOj HT hD hr hY0
          go_wp2_with fail
          exact QM.out HE.out _ bel2
        · have hx' : ¬ (D : Int) < (X : Int) := by omega
          have hP : ¬ r < X * Y := fun h => hx (HT.2 h)
          obtain ⟨P, hPe⟩ : ∃ P, P = X * Y := ⟨_, rfl⟩
          have hPi : (X : Int) * (Y : Int) = (P : Int) := by rw [hPe]; simp
          rw [← hPe] at hP HS
          have hPl : (q : Int) + (P : Int) ≤ 4611686018427387904 := by omega
          have HN : Hid (smK l k (j + 1) = q + P) := HS.out
          clear HS HOj HT hD hr hPe hP hx hY0
          go_wp2_with fail
          go_roundw
          case rel => exact ⟨j + 1, by omega, by go_num, by rw [HN.out]; go_num, by rw [HN.out]; omega, bel2⟩
          case measure => simp [intOf]; omega
    · have hge : (s : Int) ≤ (j : Int) := by omega
      have HJ : Hid (j = s) := by show _ = _; omega
      have h := QS.out (by rw [← HJ.out]; exact hle) wr bel
      rw [← HJ.out] at h
      go_wp2_with fail
      exact h
set_option maxRecDepth 10000 in
set_option maxHeartbeats 4000000 in
theorem rcost_any (w : World) (a b : Option Addr) (n m c d : Nat) (l k : List Int) (ha : Src w a n c (ci l)) (hb : Src w b m d (ci k)) (hn : n ≤ 17592186044416) (hm : m ≤ 17592186044416) (hl64 : ∀ j, l.getD j 0 ≤ 9223372036854775807) (hk64 : ∀ j, k.getD j 0 ≤ 9223372036854775807) :
    Calls Try.prog 12 #[.slice a n c, .slice b m d] w fun e w' => e = .returned (.int .i64 (costV l k)) ∧ Below w.heap.size w w' := by
  have hl : l.length = n := by have := ha.1; rwa [ci_len] at this
  have hk : k.length = m := by have := hb.1; rwa [ci_len] at this
  obtain ⟨s, hs⟩ : ∃ s, s = min n m := ⟨_, rfl⟩
  have hsi : min (n : Int) (m : Int) = (s : Int) := by omega
  have hs' : (s : Int) ≤ 17592186044416 := by omega
  have HA : Hid (∀ j, j < s → ∃ g off g2 off2, a = some ⟨g, off, none⟩ ∧ b = some ⟨g2, off2, none⟩ ∧ g < w.heap.size ∧ g2 < w.heap.size ∧ w.cell? ⟨g, off + j, none⟩ = some (.int .i64 (l.getD j 0)) ∧ w.cell? ⟨g2, off2 + j, none⟩ = some (.int .i64 (k.getD j 0)) ∧ (j : Int) < (n : Int) ∧ (j : Int) < (m : Int)) := fun j hj => by
    obtain ⟨g, off, e, hc⟩ := src_at ha (j := j) (by omega)
    obtain ⟨g2, off2, e2, hc2⟩ := src_at hb (j := j) (by omega)
    exact ⟨g, off, g2, off2, e, e2, World.block_lt_of_cell? _ _ hc, World.block_lt_of_cell? _ _ hc2, hc, hc2, by omega, by omega⟩
  refine calls_of fun Q HQ => ?_
  have QM : Hid (costV l k = 4611686018427387904 → ∀ w', Below w.heap.size w w' → Q (.returned (.int .i64 4611686018427387904)) w') := fun e w' h => HQ _ _ ⟨by rw [e], h⟩
  have QS : Hid (smK l k s ≤ 4611686018427387904 → ∀ w', Below w.heap.size w w' → Q (.returned (.int .i64 ((smK l k s : Nat) : Int))) w') := fun e w' h => HQ _ _ ⟨by rw [cost_in l k (by rw [hl, hk, ← hs]; exact e), hl, hk, ← hs], h⟩
  have HO : Hid (∀ j, j < s → 4611686018427387904 < smK l k (j + 1) → costV l k = 4611686018427387904) := fun j hj h => cost_over l k j (by rw [hl, hk, ← hs]; exact hj) h
  have H64 : Hid (∀ j, l.getD j 0 ≤ 9223372036854775807 ∧ k.getD j 0 ≤ 9223372036854775807) := fun j => ⟨hl64 j, hk64 j⟩
  have HSM : Hid (s = min n m) := hs
  have hn' : (n : Int) ≤ 17592186044416 := by omega
  have hm' : (m : Int) ≤ 17592186044416 := by omega
  clear ha hb hl hk hs HQ hl64 hk64 hsi
  go_enter Try.func12, Try.ntmps12
  go_wp2_with fail
  go_loopw [5, 6] (fun v i wr => ∃ j : Nat, j ≤ s ∧ i = .int .i64 j ∧ v = .int .i64 ((smK l k j : Nat) : Int) ∧ smK l k j ≤ 4611686018427387904 ∧ Below w.heap.size w wr) (fun _ i _ => s - (intOf i).toNat)
  case atStart => exact ⟨0, Nat.zero_le _, rfl, rfl, Nat.zero_le _, Below.refl _ _⟩
  case round =>
    obtain ⟨j, hj, rfl, rfl, hle, bel⟩ := hrel
    by_cases hlt : j < s
    · have hlt' : (j : Int) < (s : Int) := by omega
      obtain ⟨g, off, g2, off2, rfl, rfl, hg, hg2, q1, q2, i1, i2⟩ := HA.out j hlt
      have c1 := (bel.cell (p := ⟨g, off + j, none⟩) hg).trans q1
      have c2 := (bel.cell (p := ⟨g2, off2 + j, none⟩) hg2).trans q2
      have HS : Hid (smK l k (j + 1) = smK l k j + (l.getD j 0).toNat * (k.getD j 0).toNat) := rfl
      have h64 := H64.out j
      have HOj : Hid _ := HO.out j hlt
      generalize l.getD j 0 = x at *
      generalize k.getD j 0 = y at *
      obtain ⟨X, hX⟩ : ∃ X, X = x.toNat := ⟨_, rfl⟩
      obtain ⟨Y, hY⟩ : ∃ Y, Y = y.toNat := ⟨_, rfl⟩
      have mx : max 0 x = (X : Int) := by omega
      have my : max 0 y = (Y : Int) := by omega
      rw [← hX, ← hY] at HS
      have hX64 : (X : Int) ≤ 9223372036854775807 := by omega
      have hY64 : (Y : Int) ≤ 9223372036854775807 := by omega
      generalize smK l k j = q at *
      clear q1 q2 hX hY HO
      have hq : (q : Int) ≤ 4611686018427387904 := by omega
      go_wp2_with fail
      go_region
      have bel2 : Below w.heap.size w wr.drew := bel.drew
      generalize wr.drew = W2 at *
      clear c1 c2 mx my
      by_cases hX0 : X = 0
      · subst hX0
        have HN : Hid (smK l k (j + 1) = q) := by show _ = _; rw [HS.out]; simp
        clear HS HOj
        have hX0' : ¬ (0 : Int) < 0 := by omega
        go_wp2_with fail
        go_roundw
        case rel => exact ⟨j + 1, by omega, by go_num, by rw [HN.out], by rw [HN.out]; exact hle, bel2⟩
        case measure => simp [intOf]; omega
      · have hYp : (0 : Int) < (X : Int) := by omega
        obtain ⟨r, hr⟩ : ∃ r, r = 4611686018427387904 - q := ⟨_, rfl⟩
        have hri : 4611686018427387904 - (q : Int) = (r : Int) := by omega
        obtain ⟨D, hD⟩ : ∃ D, D = r / X := ⟨_, rfl⟩
        have hDi : (r : Int) / (X : Int) = (D : Int) := by rw [hD]; simp
        have hDt : (r : Int).tdiv (X : Int) = (D : Int) := by rw [Int.tdiv_eq_ediv_of_nonneg (by omega)]; exact hDi
        have hY1 : ¬ (X : Int) = 0 := by omega
        have hrl : (r : Int) ≤ 4611686018427387904 := by omega
        have hDl : (D : Int) ≤ 4611686018427387904 := by
          have : D ≤ r := by rw [hD]; exact Nat.div_le_self _ _
          omega
        have HT := div_test r Y X (by omega)
        rw [← hD] at HT
        by_cases hx : D < Y
        · have hx' : (D : Int) < (Y : Int) := by omega
          have HE : Hid (costV l k = 4611686018427387904) := HOj.out (by have := HT.1 hx; rw [HS.out, Nat.mul_comm]; omega)
          clear HS HOj HT hD hr hX0
          go_wp2_with fail
          exact QM.out HE.out _ bel2
        · have hx' : ¬ (D : Int) < (Y : Int) := by omega
          have hP : ¬ r < X * Y := fun h => hx (HT.2 (by rw [Nat.mul_comm]; exact h))
          obtain ⟨P, hPe⟩ : ∃ P, P = X * Y := ⟨_, rfl⟩
          have hPi : (X : Int) * (Y : Int) = (P : Int) := by rw [hPe]; simp
          rw [← hPe] at hP HS
          have hPl : (q : Int) + (P : Int) ≤ 4611686018427387904 := by omega
          have HN : Hid (smK l k (j + 1) = q + P) := HS.out
          clear HS HOj HT hD hr hPe hP hx hX0
          go_wp2_with fail
          go_roundw
          case rel => exact ⟨j + 1, by omega, by go_num, by rw [HN.out]; go_num, by rw [HN.out]; omega, bel2⟩
          case measure => simp [intOf]; omega
    · have hge : (s : Int) ≤ (j : Int) := by omega
      have hcase : (n : Int) ≤ (j : Int) ∨ ((j : Int) < (n : Int) ∧ (m : Int) ≤ (j : Int)) := by have := HSM.out; omega
      have HJ : Hid (j = s) := by show _ = _; omega
      have h := QS.out (by rw [← HJ.out]; exact hle) wr bel
      rw [← HJ.out] at h
      rcases hcase with h1 | ⟨h1, h2⟩
      · go_wp2_with fail
        exact h
      · go_wp2_with fail
        exact h
end Go.Proofs.Ytfcjnpbnejaolaa
