/-
  The law's own functions: num, ints, lent, kept.
-/
import Derived.Test.YtkieallgompggabLenH
namespace Go.Proofs.Ytkieallgompggab
set_option linter.unusedVariables false
set_option linter.unusedSimpArgs false
open Go.ChangeShapes Go.WideShapes Go.ChangeAt Go.RowKit

theorem num_any (e : Int) (w : World) : Calls Try.prog 7 #[.int .i64 e] w fun r w' => r = .returned (.int .i64 e) ∧ w' = w := by
  go_enter Try.func7, Try.ntmps7
  go_wp2
  go_ret
  exact ⟨rfl, rfl⟩
theorem take_eq_succ {l m : List Int} {j : Nat} (hl : j < l.length) (hm : j < m.length) (h : l.take j = m.take j) : l.take (j + 1) = m.take (j + 1) ↔ l.getD j 0 = m.getD j 0 := by
  have e1 := List.take_succ_eq_append_getElem hl
  have e2 := List.take_succ_eq_append_getElem hm
  have g1 : l.getD j 0 = l[j] := by simp [List.getD, List.getElem?_eq_getElem hl]
  have g2 : m.getD j 0 = m[j] := by simp [List.getD, List.getElem?_eq_getElem hm]
  rw [g1, g2]
  constructor
  · intro hh
    rw [e1, e2, h] at hh
    have h3 := List.append_cancel_left hh
    injection h3
  · intro hh
    rw [e1, e2, h, hh]
set_option maxHeartbeats 1000000 in
theorem ints_any (w : World) (a b : Option Addr) (n m c d : Nat) (l k : List Int) (ha : Src w a n c (ci l)) (hb : Src w b m d (ci k)) (hn : n ≤ 17592186044416) :
    Calls Try.prog 12 #[.slice a n c, .slice b m d] w fun e w' => e = .returned (.bool (decide (l = k))) ∧ Below w.heap.size w w' := by
  have hl : l.length = n := by have := ha.1; rwa [ci_len] at this
  have hk : k.length = m := by have := hb.1; rwa [ci_len] at this
  have hn' : (n : Int) ≤ 17592186044416 := by omega
  by_cases e : n = m
  · subst e
    have HA : Hid (∀ j, j < n → ∃ g off, a = some ⟨g, off, none⟩ ∧ g < w.heap.size ∧ w.cell? ⟨g, off + j, none⟩ = some (.int .i64 (l.getD j 0))) := fun j hj => by
      obtain ⟨g, off, e, hc⟩ := src_at ha hj
      exact ⟨g, off, e, World.block_lt_of_cell? _ _ hc, hc⟩
    have HB : Hid (∀ j, j < n → ∃ g off, b = some ⟨g, off, none⟩ ∧ g < w.heap.size ∧ w.cell? ⟨g, off + j, none⟩ = some (.int .i64 (k.getD j 0))) := fun j hj => by
      obtain ⟨g, off, e, hc⟩ := src_at hb hj
      exact ⟨g, off, e, World.block_lt_of_cell? _ _ hc, hc⟩
    have HL : Hid (l.length = n ∧ k.length = n) := ⟨hl, hk⟩
    refine calls_of fun Q HQ => ?_
    have QY : Hid (l = k → ∀ w', Below w.heap.size w w' → Q (.returned (.bool true)) w') := fun e w' h => HQ _ _ ⟨by simp [e], h⟩
    have QN : Hid (¬ l = k → ∀ w', Below w.heap.size w w' → Q (.returned (.bool false)) w') := fun e w' h => HQ _ _ ⟨by simp [e], h⟩
    clear ha hb hl hk HQ
    go_enter Try.func12, Try.ntmps12
    go_wp2_with fail
    go_loopw [5] (fun c wr => ∃ j : Nat, j ≤ n ∧ c = .int .i64 j ∧ Hid (l.take j = k.take j) ∧ Below w.heap.size w wr) (fun c _ => n - (intOf c).toNat)
    case atStart => exact ⟨0, Nat.zero_le _, rfl, by show _ = _; simp, Below.refl _ _⟩
    case round =>
      obtain ⟨j, hj, rfl, HT, bel⟩ := hrel
      by_cases hlt : j < n
      · have hlt' : (j : Int) < (n : Int) := by omega
        obtain ⟨g1, o1, rfl, hg1, q1⟩ := HA.out j hlt
        obtain ⟨g2, o2, rfl, hg2, q2⟩ := HB.out j hlt
        have c1 := (bel.cell (p := ⟨g1, o1 + j, none⟩) hg1).trans q1
        have c2 := (bel.cell (p := ⟨g2, o2 + j, none⟩) hg2).trans q2
        have HS : Hid _ := take_eq_succ (l := l) (m := k) (by rw [HL.out.1]; exact hlt) (by rw [HL.out.2]; exact hlt) HT.out
        generalize l.getD j 0 = x at *
        generalize k.getD j 0 = y at *
        clear q1 q2
        by_cases hxy : x = y
        · have hne : (x != y) = false := by simpa using hxy
          have HN : Hid (l.take (j + 1) = k.take (j + 1)) := HS.out.2 hxy
          clear hxy HS HT
          go_wp2_with fail
          go_quiet (fail)
          go_wp2_with fail
          go_roundw
          case rel => exact ⟨j + 1, by omega, by go_num, HN, ⟨bel.os, bel.tape, bel.output, bel.size, bel.block⟩⟩
          case measure => simp [intOf]; omega
        · have hne : (x != y) = true := by simpa using hxy
          have HN : Hid (¬ l = k) := fun e => hxy (HS.out.1 (by rw [e]))
          clear hxy HS HT
          go_wp2_with fail
          go_quiet (fail)
          go_wp2_with fail
          exact QN.out HN.out _ ⟨bel.os, bel.tape, bel.output, bel.size, bel.block⟩
      · have hge : (n : Int) ≤ (j : Int) := by omega
        have HE : Hid (l = k) := by
          have h := HT.out
          rw [List.take_of_length_le (by rw [HL.out.1]; omega), List.take_of_length_le (by rw [HL.out.2]; omega)] at h
          exact h
        go_wp2_with fail
        exact QY.out HE.out _ bel
  · have hne : ¬ (n : Int) = (m : Int) := by omega
    have hlk : decide (l = k) = false := by
      simp
      intro h
      rw [h] at hl
      omega
    rw [hlk]
    clear ha hb hl hk e hlk
    go_enter Try.func12, Try.ntmps12
    go_wp2
    go_ret
    exact ⟨rfl, Below.refl _ _⟩

end Go.Proofs.Ytkieallgompggab
