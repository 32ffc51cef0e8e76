/-
  The law's own functions: num, ints, lent, kept.
-/
import Derived.Test.YtfcjnpbnejaolaaLenH
namespace Go.Proofs.Ytfcjnpbnejaolaa
set_option linter.unusedVariables false
set_option linter.unusedSimpArgs false
open Go.ChangeShapes Go.WideShapes Go.ChangeAt Go.RowKit

theorem num_any (e : Int) (w : World) : Calls Try.prog 10 #[.int .i64 e] w fun r w' => r = .returned (.int .i64 e) ∧ w' = w := by
  go_enter Try.func10, Try.ntmps10
  go_wp2
  go_ret
  exact ⟨rfl, rfl⟩
theorem take_eq_succ {l m : List Int} {j : Nat} (hl : j < l.length) (hm : j < m.length) (h : l.take j = m.take j) : l.take (j + 1) = m.take (j + 1) ↔ l.getD j 0 = m.getD j 0 := by
  have e1 := List.take_succ_eq_append_getElem hl
  have e2 := List.take_succ_eq_append_getElem hm
  have g1 : l.getD j 0 = l[j] := by simp [List.getD, List.getElem?_eq_getElem hl]
  have g2 : m.getD j 0 = m[j] := by simp [List.getD, List.getElem?_eq_getElem hm]
  rw [g1, g2]
  constructor
  · intro hh
    rw [e1, e2, h] at hh
    have h3 := List.append_cancel_left hh
    injection h3
  · intro hh
    rw [e1, e2, h, hh]
set_option maxHeartbeats 1000000 in
theorem ints_any (w : World) (a b : Option Addr) (n m c d : Nat) (l k : List Int) (ha : Src w a n c (ci l)) (hb : Src w b m d (ci k)) (hn : n ≤ 17592186044416) :
    Calls Try.prog 9 #[.slice a n c, .slice b m d] w fun e w' => e = .returned (.bool (decide (l = k))) ∧ Below w.heap.size w w' := by
  have hl : l.length = n := by have := ha.1; rwa [ci_len] at this
  have hk : k.length = m := by have := hb.1; rwa [ci_len] at this
  have hn' : (n : Int) ≤ 17592186044416 := by omega
  by_cases e : n = m
  · subst e
    have HA : Hid (∀ j, j < n → ∃ g off, a = some ⟨g, off, none⟩ ∧ g < w.heap.size ∧ w.cell? ⟨g, off + j, none⟩ = some (.int .i64 (l.getD j 0))) := fun j hj => by
      obtain ⟨g, off, e, hc⟩ := src_at ha hj
      exact ⟨g, off, e, World.block_lt_of_cell? _ _ hc, hc⟩
    have HB : Hid (∀ j, j < n → ∃ g off, b = some ⟨g, off, none⟩ ∧ g < w.heap.size ∧ w.cell? ⟨g, off + j, none⟩ = some (.int .i64 (k.getD j 0))) := fun j hj => by
      obtain ⟨g, off, e, hc⟩ := src_at hb hj
      exact ⟨g, off, e, World.block_lt_of_cell? _ _ hc, hc⟩
    have HL : Hid (l.length = n ∧ k.length = n) := ⟨hl, hk⟩
    refine calls_of fun Q HQ => ?_
    have QY : Hid (l = k → ∀ w', Below w.heap.size w w' → Q (.returned (.bool true)) w') := fun e w' h => HQ _ _ ⟨by simp [e], h⟩
    have QN : Hid (¬ l = k → ∀ w', Below w.heap.size w w' → Q (.returned (.bool false)) w') := fun e w' h => HQ _ _ ⟨by simp [e], h⟩
    clear ha hb hl hk HQ
    go_enter Try.func9, Try.ntmps9
    go_wp2_with fail
    go_loopw [5] (fun c wr => ∃ j : Nat, j ≤ n ∧ c = .int .i64 j ∧ Hid (l.take j = k.take j) ∧ Below w.heap.size w wr) (fun c _ => n - (intOf c).toNat)
    case atStart => exact ⟨0, Nat.zero_le _, rfl, by show _ = _; simp, Below.refl _ _⟩
    case round =>
      obtain ⟨j, hj, rfl, HT, bel⟩ := hrel
      by_cases hlt : j < n
      · have hlt' : (j : Int) < (n : Int) := by omega
        obtain ⟨g1, o1, rfl, hg1, q1⟩ := HA.out j hlt
        obtain ⟨g2, o2, rfl, hg2, q2⟩ := HB.out j hlt
        have c1 := (bel.cell (p := ⟨g1, o1 + j, none⟩) hg1).trans q1
        have c2 := (bel.cell (p := ⟨g2, o2 + j, none⟩) hg2).trans q2
        have HS : Hid _ := take_eq_succ (l := l) (m := k) (by rw [HL.out.1]; exact hlt) (by rw [HL.out.2]; exact hlt) HT.out
        generalize l.getD j 0 = x at *
        generalize k.getD j 0 = y at *
        clear q1 q2
        by_cases hxy : x = y
        · have hne : (x != y) = false := by simpa using hxy
          have HN : Hid (l.take (j + 1) = k.take (j + 1)) := HS.out.2 hxy
          clear hxy HS HT
          go_wp2_with fail
          go_quiet (fail)
          go_wp2_with fail
          go_roundw
          case rel => exact ⟨j + 1, by omega, by go_num, HN, ⟨bel.os, bel.tape, bel.output, bel.size, bel.block⟩⟩
          case measure => simp [intOf]; omega
        · have hne : (x != y) = true := by simpa using hxy
          have HN : Hid (¬ l = k) := fun e => hxy (HS.out.1 (by rw [e]))
          clear hxy HS HT
          go_wp2_with fail
          go_quiet (fail)
          go_wp2_with fail
          exact QN.out HN.out _ ⟨bel.os, bel.tape, bel.output, bel.size, bel.block⟩
      · have hge : (n : Int) ≤ (j : Int) := by omega
        have HE : Hid (l = k) := by
          have h := HT.out
          rw [List.take_of_length_le (by rw [HL.out.1]; omega), List.take_of_length_le (by rw [HL.out.2]; omega)] at h
          exact h
        go_wp2_with fail
        exact QY.out HE.out _ bel
  · have hne : ¬ (n : Int) = (m : Int) := by omega
    have hlk : decide (l = k) = false := by
      simp
      intro h
      rw [h] at hl
      omega
    rw [hlk]
    clear ha hb hl hk e hlk
    go_enter Try.func9, Try.ntmps9
    go_wp2
    go_ret
    exact ⟨rfl, Below.refl _ _⟩

theorem own_cap {w : World} {B : Nat} {e : TypeId} {s n c m : Nat} {a : Option Addr} {xs : List Value} (h : w.ownsRow B e s (.slice a m c) n xs) : n ≤ c := by
  rcases h.2 with ⟨e1, e2⟩ | ⟨g, cap, cur, e1, _, _, e2, _⟩
  · omega
  · cases e1; exact e2
set_option maxHeartbeats 1000000 in
theorem lent_any (w : World) (a : Option Addr) (cp L : Nat) (b : List Int) (hs : Src w a L cp (ci b)) (hL : (L + 1) * 8 ≤ 140737488355328) :
    Calls Try.prog 6 #[.slice a L cp] w fun e w' => ∃ g cc, e = .returned (.slice (some ⟨g, 0, none⟩) L cc) ∧ Src w' (some ⟨g, 0, none⟩) (L + 1) cc (ci (b ++ [77])) ∧ L + 1 ≤ cc ∧ Below w.heap.size w w' := by
  obtain ⟨i0, hi, hz0, hz1, hz2⟩ := info_parts infoI
  have HS : Hid (Src w a L cp (ci b)) := hs
  have HM : Hid (0 + L ≤ maxLen ∧ (0 + L) * 8 ≤ 140737488355328 ∧ 0 + L + 1 ≤ maxLen ∧ (0 + L + 1) * 8 ≤ 140737488355328) := ⟨by unfold maxLen; omega, by omega, by unfold maxLen; omega, by omega⟩
  have hL' : (L : Int) ≤ 17592186044416 := by omega
  clear hs
  go_enter Try.func6, Try.ntmps6
  have HA : Hid (∀ W1 : World, Below w.heap.size w W1 → w.heap.size ≤ (W1.alloc (.cells #[.int .i64 77] 3)).heap.size) := fun W1 h => by have := h.size; simp; omega
  go_wp2_with (first | (at_builtin; refine wpList_append_src rfl (.tmp 3) (.tmp 4) 22 rfl w.heap.size 3 i0 (.int .i64 0) 8 Try.underlying22 hi hz0 hz1 hz2 rfl _ _ _ rfl (World.ownsRow_made _ _ 0 (Nat.le_refl _) (Nat.zero_le _) rfl) _ _ _ (ci b) rfl (HS.out.later ((Below.refl _ w).alloc (Nat.le_refl _) _)) (ci_one b) HM.out.1 HM.out.2.1 (by simp) ?_; intro v1 W1 hown1 hb1; have hb01 : Below w.heap.size w W1 := ((Below.refl _ w).alloc (Nat.le_refl _) _).trans hb1) | (at_builtin; refine wpList_append_own _ rfl (.tmp 5) (.tmp 6) 22 rfl w.heap.size 3 i0 (.int .i64 0) 1 8 Try.underlying22 hi hz0 hz1 hz2 rfl (by decide) _ _ _ rfl (hown1.alloc _) ⟨W1.heap.size, 0, none⟩ 1 1 [.int .i64 77] rfl rfl (new_news W1 [.int .i64 77] 3 (0, 0)) (ci_one [77]) HM.out.2.2.1 HM.out.2.2.2 (HA.out W1 hb01) ?_; intro v2 W2 hown2 hg2 _; obtain ⟨g, cc, rfl⟩ := own_some hown2 (Nat.le_add_left _ _); have hcc : L + 1 ≤ cc := by { have h0 := own_cap hown2; omega }; have hcl : L ≤ cc := Nat.le_of_succ_le hcc; have HO2 : Hid _ := hown2; have HG2 : Hid (Below w.heap.size w W2) := (hb01.alloc hb01.size _).grown hg2 (HA.out W1 hb01) (fun k hk => (hown1.lt k hk).1); clear hown2 hg2))
  go_ret
  have hs2 := (src_own HO2.out).2
  rw [Nat.zero_add, List.nil_append] at hs2
  exact ⟨g, cc, rfl, by rw [ci_append]; exact hs2, hcc, HG2.out⟩
theorem ci_take (l : List Int) (n : Nat) : (ci l).take n = ci (l.take n) := by unfold ci; rw [List.map_take]
theorem lent_src {w : World} {g cc L : Nat} {b : List Int} (hm : Src w (some ⟨g, 0, none⟩) (L + 1) cc (ci (b ++ [77]))) (hb : b.length = L) : Src w (some ⟨g, 0, none⟩) L cc (ci b) := by
  have h := src_take hm (n := L) (by omega)
  rw [ci_take, ← hb, List.take_left] at h
  rw [← hb]
  exact h
set_option maxHeartbeats 1000000 in
theorem kept_any (w : World) (g cc L cp : Nat) (a : Option Addr) (b : List Int) (hm : Src w (some ⟨g, 0, none⟩) (L + 1) cc (ci (b ++ [77]))) (hcc : L + 1 ≤ cc) (hs : Src w a L cp (ci b)) (hL : L ≤ 17592186044415) :
    Calls Try.prog 8 #[.slice (some ⟨g, 0, none⟩) L cc, .slice a L cp] w fun e w' => e = .returned (.bool true) ∧ Below w.heap.size w w' := by
  have hlen : b.length = L := by have := hs.1; rwa [ci_len] at this
  have K := ints_any w (some ⟨g, 0, none⟩) a L L cc cp b b (lent_src hm hlen) hs (by omega)
  rw [show decide (b = b) = true from by simp] at K
  obtain ⟨g', off', e, hc⟩ := src_at hm (j := L) (by omega)
  cases e
  have hgd : (b ++ [77]).getD L 0 = 77 := by rw [← hlen]; simp [List.getD]
  rw [hgd] at hc
  have hglt : g < w.heap.size := World.block_lt_of_cell? _ _ hc
  have hL' : (L : Int) ≤ 17592186044415 := by omega
  have hcc' : (L : Int) + 1 ≤ (cc : Int) := by omega
  rw [Nat.zero_add] at hc
  clear hm hs hlen hgd
  go_enter Try.func8, Try.ntmps8
  go_wp2_with fail
  refine K.mono ?_
  rintro e w1 ⟨rfl, hb1⟩
  have hc1 := (hb1.cell (p := ⟨g, L, none⟩) hglt).trans hc
  go_wp2_with fail
  go_ret
  exact ⟨rfl, hb1⟩
end Go.Proofs.Ytfcjnpbnejaolaa
