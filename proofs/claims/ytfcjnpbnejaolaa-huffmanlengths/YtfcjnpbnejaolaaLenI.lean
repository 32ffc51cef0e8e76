/-
  What huffman.Lengths answers.
-/
import Derived.Test.YtfcjnpbnejaolaaCst
import Derived.Test.YtfcjnpbnejaolaaRdC
import Derived.Test.YtfcjnpbnejaolaaRdD
namespace Go.Proofs.Ytfcjnpbnejaolaa
set_option linter.unusedVariables false
set_option linter.unusedSimpArgs false
open Go.ChangeShapes Go.WideShapes Go.ChangeAt Go.RowKit

/-- why there are no lengths -/
def lenR (l : List Int) (limit : Int) : Int :=
  if limit < 1 ∨ 15 < limit then 2 else if refu 2147483647 l ≠ 0 then refu 2147483647 l else if 2 ^ limit.toNat < (syms (l.map Int.toNat)).length then 150 else 0
/-- the lengths -/
def lenV (l : List Int) (limit : Int) : List Nat := lensOf (l.map Int.toNat) (syms (l.map Int.toNat)) limit.toNat
theorem lengths_no (w : World) (a : Option Addr) (len cap : Nat) (l : List Int) (limit : Int) (hs : Src w a len cap (ci l)) (hlen : len ≤ 17592186044416) (hno : lenR l limit ≠ 0) :
    Calls Try.prog 7 #[.slice a len cap, .int .i64 limit] w fun e w' => e = .returned (.tuple #[.slice none 0 0, .int .i64 (lenR l limit)]) ∧ Below w.heap.size w w' := by
  unfold lenR at *
  by_cases h1 : limit < 1 ∨ 15 < limit
  · rw [if_pos h1]
    exact lengths_arg w a len cap limit h1
  · rw [if_neg h1] at *
    by_cases h2 : refu 2147483647 l = 0
    · rw [if_neg (fun h => h h2)] at *
      by_cases h3 : 2 ^ limit.toNat < (syms (l.map Int.toNat)).length
      · rw [if_pos h3]
        obtain ⟨h4, c, rfl, h5⟩ := refu_ok h2
        rw [nm_toNat] at h3
        have hl : (nm c).length = len := by have := hs.1; rwa [ci_len] at this
        obtain ⟨L, hL⟩ : ∃ L : Nat, limit = (L : Int) := ⟨limit.toNat, by omega⟩
        subst hL
        exact lengths_full w a len cap c L hs (by omega) (by omega) (by omega) h2 (by simpa using h3)
      · rw [if_neg h3] at hno
        exact absurd rfl hno
    · rw [if_pos h2]
      exact lengths_ref w a len cap l limit hs hlen (by omega) (by omega) h2
theorem lengths_yes (w : World) (a : Option Addr) (len cap : Nat) (l : List Int) (limit : Int) (hs : Src w a len cap (ci l)) (hyes : lenR l limit = 0) :
    Calls Try.prog 7 #[.slice a len cap, .int .i64 limit] w fun e w' => ∃ R, e = .returned (.tuple #[.slice (some ⟨R, 0, none⟩) len len, .int .i64 0]) ∧ Vec w' R (lenV l limit) ∧ w.heap.size ≤ R ∧ Below w.heap.size w w' := by
  unfold lenR at hyes
  by_cases h1 : limit < 1 ∨ 15 < limit
  · rw [if_pos h1] at hyes; omega
  · rw [if_neg h1] at hyes
    by_cases h2 : refu 2147483647 l = 0
    · rw [if_neg (fun h => h h2)] at hyes
      by_cases h3 : 2 ^ limit.toNat < (syms (l.map Int.toNat)).length
      · rw [if_pos h3] at hyes; omega
      · obtain ⟨h4, c, rfl, h5⟩ := refu_ok h2
        have hl : (nm c).length = len := by have := hs.1; rwa [ci_len] at this
        have hcl : c.length = len := by rw [nm_len] at hl; exact hl
        obtain ⟨L, hL⟩ : ∃ L : Nat, limit = (L : Int) := ⟨limit.toNat, by omega⟩
        subst hL
        unfold lenV lensOf
        rw [nm_toNat] at h3 ⊢
        rw [hcl]
        rw [Int.toNat_natCast] at h3 ⊢
        by_cases h6 : (syms c).length < 2
        · rw [if_pos h6]
          exact lengths_one w a len cap c L hs (by omega) (by omega) (by omega) h2 h6
        · rw [if_neg h6]
          refine lengths_main w a len cap c L hs (by omega) (by omega) (by omega) h2 (by omega) (by omega) (fun x => ?_)
          rcases Nat.lt_or_ge x c.length with h | h
          · rw [getD_eq h]
            have := h5 _ (List.getElem_mem h)
            omega
          · simp [List.getD, List.getElem?_eq_none h]
    · rw [if_pos h2] at hyes
      exact absurd hyes h2
theorem lenV_len (l : List Int) (limit : Int) : (lenV l limit).length = l.length := by
  unfold lenV lensOf
  split
  · rw [lng_len]; simp
  · rw [← trn_end, trn_len]; simp

theorem ord_trans (c : List Nat) (x y z : Nat) (h1 : (!ordB c y x) = true) (h2 : (!ordB c z y) = true) : (!ordB c z x) = true := by
  unfold ordB at *
  simp at *
  omega
theorem ord_total (c : List Nat) (x y : Nat) : ((!ordB c y x) || (!ordB c x y)) = true := by
  unfold ordB
  simp
  omega
theorem ord_anti (c : List Nat) (x y : Nat) (h1 : (!ordB c y x) = true) (h2 : (!ordB c x y) = true) : x = y := by
  unfold ordB at *
  simp at *
  omega
theorem syms_sorted (c : List Nat) : (syms c).Pairwise fun x y => (!ordB c y x) = true := List.pairwise_mergeSort (fun x y z => ord_trans c x y z) (fun x y => ord_total c x y) _
theorem syms_perm (c : List Nat) : (syms c).Perm (some1 c c.length) := List.mergeSort_perm _ _
theorem syms_eq {c l : List Nat} (h1 : l.Pairwise fun x y => (!ordB c y x) = true) (h2 : (some1 c c.length).Perm l) : syms c = l :=
  List.Perm.eq_of_pairwise (fun a b _ _ h3 h4 => ord_anti c a b h3 h4) (syms_sorted c) h1 ((syms_perm c).trans h2)
theorem syms5 : syms [5, 0, 2, 1, 1] = [4, 3, 2, 0] := syms_eq (by decide +kernel) (by decide +kernel)
theorem w1 : refC (nm [2, 1, 3, 3]) = 0 := by decide +kernel
theorem w2 : codL [2, 1, 3, 3] = [2, 0, 6, 7] := by decide +kernel
theorem w3 : weiV (nm [2, 1, 3, 3]) = 32768 ∧ refu 15 (nm [2, 1, 3, 3]) = 0 := by decide +kernel
theorem w4 : lenR (nm [5, 0, 2, 1, 1]) 15 = 0 := by
  unfold lenR
  rw [nm_toNat, syms5]
  decide +kernel
theorem w5 : lenV (nm [5, 0, 2, 1, 1]) 15 = [1, 0, 2, 3, 3] := by
  unfold lenV
  rw [nm_toNat, syms5]
  decide +kernel
theorem w6 : costV (nm [5, 0, 2, 1, 1]) (nm [1, 0, 2, 3, 3]) = 15 := by decide +kernel
theorem w7 : findS [2, 1, 3, 3] 7 3 = 3 ∧ findB [2, 1, 3, 3] 7 3 = true := by decide +kernel
end Go.Proofs.Ytfcjnpbnejaolaa
