/-
  The plain mathematics of layer 10: a datum's bytes, and which datum stands in front of bytes.
-/
import Derived.Test.YtfocmlajeflenaaBMath
import Derived.Test.YtfocmlajeflenaaDat
import Derived.Test.YtfocmlajeflenaaDm
import Derived.Test.YtfocmlajeflenaaApp
namespace Go.Proofs.Ytfocmlajeflenaa
set_option linter.unusedVariables false
set_option linter.unusedSimpArgs false
open Go.RowKit (wrap64)

/-- a datum's bytes -/
def db (d : Dat) : List Nat :=
  if d.k = 1 ∨ d.k = 4 then upk 8 4 (d.n % 4294967296).toNat
  else if d.k = 2 ∨ d.k = 5 then upk 8 8 (d.n % 18446744073709551616).toNat
  else if d.k = 6 then upk 8 4 d.s.size ++ tb d.s
  else tb d.s
/-- the bytes of data -/
def eb : List Dat → List Nat
  | [] => []
  | d :: l => db d ++ eb l
theorem eb_append : ∀ l m : List Dat, eb (l ++ m) = eb l ++ eb m
  | [], m => rfl
  | d :: l, m => by simp [eb, eb_append l m]
theorem eb_snoc (l : List Dat) (d : Dat) : eb (l ++ [d]) = eb l ++ db d := by simp [eb_append, eb]
/-- how many bytes a datum of a type has -/
def dsz (k z : Int) (d : Dat) : Nat := if k = 1 ∨ k = 4 then 4 else if k = 2 ∨ k = 5 then 8 else if k = 6 then 4 + d.s.size else z.toNat
/-- the bits of truths -/
def tbits (l : List Dat) : List Nat := l.map fun d => d.n.toNat

/-- all are of the type -/
def wAll (k z : Int) (l : List Dat) : Bool := l.all fun d => ofB d.k d.n d.s.size k z
def wSz (k : Int) (l : List Dat) : Nat := if k = 0 then (l.length + 7) / 8 else (eb l).length
/-- why they may not be written (0: they may) -/
def wNo (k z : Int) (l : List Dat) : Int := if (chkB k z && wAll k z l) = false then 2 else if 65536 < l.length then 3 else if 1048576 < wSz k l then 3 else 0
/-- what is written -/
def wOut (k : Int) (l : List Dat) : List Nat := if k = 0 then upk 8 ((l.length + 7) / 8) (pk 1 (tbits l)) else eb l
theorem wOut_len (k : Int) (l : List Dat) : (wOut k l).length = wSz k l := by
  unfold wOut wSz
  split
  · rw [upk_len]
  · rfl

theorem of_parts {k n : Int} {l : Nat} {k' z : Int} (h : ofB k n l k' z = true) : k = k' ∧ chkB k' z = true ∧ fineB k n l = true ∧ (k' = 7 → (l : Int) = z) := by
  simp only [ofB, Bool.and_eq_true, beq_iff_eq, Bool.or_eq_true, bne_iff_ne, ne_eq] at h
  obtain ⟨h1, h2, h3, h4⟩ := h
  exact ⟨h2, h1, h3, fun e => by rcases h4 with h4 | h4; exact absurd e h4; exact h4⟩
theorem fine_parts {k n : Int} {l : Nat} (h : fineB k n l = true) : kn k = true ∧ bo k 2 ≤ n ∧ n ≤ bo k 3 ∧ bo k 4 ≤ l ∧ l ≤ bo k 5 := by
  simp only [fineB, inB, Bool.and_eq_true, decide_eq_true_eq] at h
  obtain ⟨h1, ⟨h2, h3⟩, h4, h5⟩ := h
  exact ⟨h1, h2, h3, h4, h5⟩
theorem chk_parts {k z : Int} (h : chkB k z = true) : kn k = true ∧ bo k 0 ≤ z ∧ z ≤ bo k 1 := by
  simp only [chkB, inB, Bool.and_eq_true, decide_eq_true_eq] at h
  exact h
/-- what is of a type has that many bytes -/
theorem db_len {k z : Int} {d : Dat} (h : ofB d.k d.n d.s.size k z = true) (h0 : k ≠ 0) : (db d).length = dsz k z d := by
  obtain ⟨e, hc, hf, h7⟩ := of_parts h
  have hk := (chk_parts hc).1
  unfold db dsz
  rw [e]
  rcases kn_cases hk with rfl | rfl | rfl | rfl | rfl | rfl | rfl
  · exact absurd rfl h0
  · simp [upk_len]
  · simp [upk_len]
  · simp [upk_len]
  · simp [upk_len]
  · simp [upk_len, tb_len]
  · have := h7 rfl
    simp [tb_len]
    omega
theorem of_size {k z : Int} {d : Dat} (h : ofB d.k d.n d.s.size k z = true) : dsz k z d ≤ 1048580 ∧ (k ≠ 0 → 1 ≤ dsz k z d) := by
  obtain ⟨e, hc, hf, h7⟩ := of_parts h
  obtain ⟨hk, hz0, hz1⟩ := chk_parts hc
  obtain ⟨_, _, _, hl0, hl1⟩ := fine_parts hf
  rw [e] at hl0 hl1
  unfold dsz
  rcases kn_cases hk with rfl | rfl | rfl | rfl | rfl | rfl | rfl <;> simp [bo] at * <;> omega

/-- a number as a datum of a kind -/
def mkN (k : Int) (n : Nat) : Dat := ⟨k, if k = 1 then (if 2147483647 < (n : Int) then (n : Int) - 4294967296 else n) else wrap64 (n : Int), { data := #[] }⟩
/-- the datum that stands in front of bytes, if it is there whole -/
def front (k z : Int) (bs : List Nat) : Option Dat :=
  if k = 1 ∨ k = 4 then (if 4 ≤ bs.length then some (mkN k (pk 8 (bs.take 4))) else none)
  else if k = 2 ∨ k = 5 then (if 8 ≤ bs.length then some (mkN k (pk 8 (bs.take 8))) else none)
  else if k = 6 then (if 4 ≤ bs.length ∧ pk 8 (bs.take 4) ≤ bs.length - 4 then some ⟨6, 0, txt ((bs.drop 4).take (pk 8 (bs.take 4)))⟩ else none)
  else (if z.toNat ≤ bs.length then some ⟨7, 0, txt (bs.take z.toNat)⟩ else none)
/-- so many data, and what is left behind them -/
def rds (k z : Int) : Nat → List Nat → Option (List Dat × List Nat)
  | 0, bs => some ([], bs)
  | n + 1, bs => match front k z bs with
    | none => none
    | some d => match rds k z n (bs.drop (dsz k z d)) with
      | none => none
      | some (l, r) => some (d :: l, r)
end Go.Proofs.Ytfocmlajeflenaa
