/-
  The plain mathematics of layer 10: a datum's bytes, and which datum stands in front of bytes.
-/
import Derived.Test.YtdglobonbhkheaaBMath
import Derived.Test.YtdglobonbhkheaaDat
import Derived.Test.YtdglobonbhkheaaDm
import Derived.Test.YtdglobonbhkheaaApp
namespace Go.Proofs.Ytdglobonbhkheaa
set_option linter.unusedVariables false
set_option linter.unusedSimpArgs false
open Go.RowKit (wrap64)

/-- a datum's bytes -/
def db (d : Dat) : List Nat :=
  if d.k = 1 ∨ d.k = 4 then upk 8 4 (d.n % 4294967296).toNat
  else if d.k = 2 ∨ d.k = 5 then upk 8 8 (d.n % 18446744073709551616).toNat
  else if d.k = 6 then upk 8 4 d.s.size ++ tb d.s
  else tb d.s
/-- the bytes of data -/
def eb : List Dat → List Nat
  | [] => []
  | d :: l => db d ++ eb l
theorem eb_append : ∀ l m : List Dat, eb (l ++ m) = eb l ++ eb m
  | [], m => rfl
  | d :: l, m => by simp [eb, eb_append l m]
theorem eb_snoc (l : List Dat) (d : Dat) : eb (l ++ [d]) = eb l ++ db d := by simp [eb_append, eb]
/-- how many bytes a datum of a type has -/
def dsz (k z : Int) (d : Dat) : Nat := if k = 1 ∨ k = 4 then 4 else if k = 2 ∨ k = 5 then 8 else if k = 6 then 4 + d.s.size else z.toNat
/-- the bits of truths -/
def tbits (l : List Dat) : List Nat := l.map fun d => d.n.toNat

/-- all are of the type -/
def wAll (k z : Int) (l : List Dat) : Bool := l.all fun d => ofB d.k d.n d.s.size k z
def wSz (k : Int) (l : List Dat) : Nat := if k = 0 then (l.length + 7) / 8 else (eb l).length
/-- why they may not be written (0: they may) -/
def wNo (k z : Int) (l : List Dat) : Int := if (chkB k z && wAll k z l) = false then 2 else if 65536 < l.length then 3 else if 1048576 < wSz k l then 3 else 0
/-- what is written -/
def wOut (k : Int) (l : List Dat) : List Nat := if k = 0 then upk 8 ((l.length + 7) / 8) (pk 1 (tbits l)) else eb l
theorem wOut_len (k : Int) (l : List Dat) : (wOut k l).length = wSz k l := by
  unfold wOut wSz
  split
  · rw [upk_len]
  · rfl

theorem of_parts {k n : Int} {l : Nat} {k' z : Int} (h : ofB k n l k' z = true) : k = k' ∧ chkB k' z = true ∧ fineB k n l = true ∧ (k' = 7 → (l : Int) = z) := by
  simp only [ofB, Bool.and_eq_true, beq_iff_eq, Bool.or_eq_true, bne_iff_ne, ne_eq] at h
  obtain ⟨h1, h2, h3, h4⟩ := h
  exact ⟨h2, h1, h3, fun e => by rcases h4 with h4 | h4; exact absurd e h4; exact h4⟩
theorem fine_parts {k n : Int} {l : Nat} (h : fineB k n l = true) : kn k = true ∧ bo k 2 ≤ n ∧ n ≤ bo k 3 ∧ bo k 4 ≤ l ∧ l ≤ bo k 5 := by
  simp only [fineB, inB, Bool.and_eq_true, decide_eq_true_eq] at h
  obtain ⟨h1, ⟨h2, h3⟩, h4, h5⟩ := h
  exact ⟨h1, h2, h3, h4, h5⟩
theorem chk_parts {k z : Int} (h : chkB k z = true) : kn k = true ∧ bo k 0 ≤ z ∧ z ≤ bo k 1 := by
  simp only [chkB, inB, Bool.and_eq_true, decide_eq_true_eq] at h
  exact h
/-- what is of a type has that many bytes -/
theorem db_len {k z : Int} {d : Dat} (h : ofB d.k d.n d.s.size k z = true) (h0 : k ≠ 0) : (db d).length = dsz k z d := by
  obtain ⟨e, hc, hf, h7⟩ := of_parts h
  have hk := (chk_parts hc).1
  unfold db dsz
  rw [e]
  rcases kn_cases hk with rfl | rfl | rfl | rfl | rfl | rfl | rfl
  · exact absurd rfl h0
  · simp [upk_len]
  · simp [upk_len]
  · simp [upk_len]
  · simp [upk_len]
  · simp [upk_len, tb_len]
  · have := h7 rfl
    simp [tb_len]
    omega
theorem of_size {k z : Int} {d : Dat} (h : ofB d.k d.n d.s.size k z = true) : dsz k z d ≤ 1048580 ∧ (k ≠ 0 → 1 ≤ dsz k z d) := by
  obtain ⟨e, hc, hf, h7⟩ := of_parts h
  obtain ⟨hk, hz0, hz1⟩ := chk_parts hc
  obtain ⟨_, _, _, hl0, hl1⟩ := fine_parts hf
  rw [e] at hl0 hl1
  unfold dsz
  rcases kn_cases hk with rfl | rfl | rfl | rfl | rfl | rfl | rfl <;> simp [bo] at * <;> omega

/-- a number as a datum of a kind -/
def mkN (k : Int) (n : Nat) : Dat := ⟨k, if k = 1 then (if 2147483647 < (n : Int) then (n : Int) - 4294967296 else n) else wrap64 (n : Int), { data := #[] }⟩
/-- the datum that stands in front of bytes, if it is there whole -/
def front (k z : Int) (bs : List Nat) : Option Dat :=
  if k = 1 ∨ k = 4 then (if 4 ≤ bs.length then some (mkN k (pk 8 (bs.take 4))) else none)
  else if k = 2 ∨ k = 5 then (if 8 ≤ bs.length then some (mkN k (pk 8 (bs.take 8))) else none)
  else if k = 6 then (if 4 ≤ bs.length ∧ pk 8 (bs.take 4) ≤ bs.length - 4 then some ⟨6, 0, txt ((bs.drop 4).take (pk 8 (bs.take 4)))⟩ else none)
  else (if z.toNat ≤ bs.length then some ⟨7, 0, txt (bs.take z.toNat)⟩ else none)
/-- so many data, and what is left behind them -/
def rds (k z : Int) : Nat → List Nat → Option (List Dat × List Nat)
  | 0, bs => some ([], bs)
  | n + 1, bs => match front k z bs with
    | none => none
    | some d => match rds k z n (bs.drop (dsz k z d)) with
      | none => none
      | some (l, r) => some (d :: l, r)
end Go.Proofs.Ytdglobonbhkheaa

/-
  The whole values of bytes, one behind the other: plain mathematics.
-/
namespace Go.Proofs.Ytdglobonbhkheaa
set_option linter.unusedVariables false

/-- what stands in front has one byte at least, and no more than there are -/
theorem front_size {k z : Int} {rs : List Nat} {d : Dat} (hc : chkB k z = true) (h0 : k ≠ 0) (h : front k z rs = some d) : 1 ≤ dsz k z d ∧ dsz k z d ≤ rs.length ∧ d.s.size ≤ rs.length := by
  obtain ⟨hk, hz0, hz1⟩ := chk_parts hc
  unfold front at h
  unfold dsz
  rcases kn_cases hk with rfl | rfl | rfl | rfl | rfl | rfl | rfl
  · exact absurd rfl h0
  · simp at h ⊢
    obtain ⟨h1, rfl⟩ := h
    exact ⟨h1, Nat.zero_le _⟩
  · simp at h ⊢
    obtain ⟨h1, rfl⟩ := h
    exact ⟨h1, Nat.zero_le _⟩
  · simp at h ⊢
    obtain ⟨h1, rfl⟩ := h
    exact ⟨h1, Nat.zero_le _⟩
  · simp at h ⊢
    obtain ⟨h1, rfl⟩ := h
    exact ⟨h1, Nat.zero_le _⟩
  · simp at h ⊢
    obtain ⟨⟨h1, h2⟩, rfl⟩ := h
    simp only [txt_size, List.length_take, List.length_drop]
    omega
  · simp [bo] at h hz0 hz1 ⊢
    obtain ⟨h1, rfl⟩ := h
    simp only [txt_size, List.length_take]
    omega

def valsF (k z : Int) (bs : List Nat) : Nat → Nat → List (Nat × Dat)
  | 0, _ => []
  | f + 1, p => match front k z (bs.drop p) with
    | none => []
    | some d => (p, d) :: valsF k z bs f (p + dsz k z d)
/-- the whole values from a place on, with their places -/
def vals (k z : Int) (bs : List Nat) (p : Nat) : List (Nat × Dat) := valsF k z bs (bs.length + 1 - p) p
theorem valsF_fuel {k z : Int} {bs : List Nat} (hc : chkB k z = true) (h0 : k ≠ 0) : ∀ (f g p : Nat), bs.length + 1 - p ≤ f → bs.length + 1 - p ≤ g → p ≤ bs.length → valsF k z bs f p = valsF k z bs g p
  | 0, _, p, hf, _, hp => by omega
  | f + 1, 0, p, _, hg, hp => by omega
  | f + 1, g + 1, p, hf, hg, hp => by
    unfold valsF
    cases h : front k z (bs.drop p) with
    | none => rfl
    | some d =>
      obtain ⟨h1, h2, _⟩ := front_size hc h0 h
      rw [List.length_drop] at h2
      simp only
      rw [valsF_fuel hc h0 f g (p + dsz k z d) (by omega) (by omega) (by omega)]
theorem vals_some {k z : Int} {bs : List Nat} {p : Nat} {d : Dat} (hc : chkB k z = true) (h0 : k ≠ 0) (hp : p ≤ bs.length) (h : front k z (bs.drop p) = some d) : vals k z bs p = (p, d) :: vals k z bs (p + dsz k z d) := by
  obtain ⟨h1, h2, _⟩ := front_size hc h0 h
  rw [List.length_drop] at h2
  unfold vals
  rw [show bs.length + 1 - p = (bs.length - p) + 1 from by omega, valsF, h]
  simp only
  rw [valsF_fuel hc h0 (bs.length - p) (bs.length + 1 - (p + dsz k z d)) _ (by omega) (by omega) (by omega)]
theorem vals_none {k z : Int} {bs : List Nat} {p : Nat} (hp : p ≤ bs.length) (h : front k z (bs.drop p) = none) : vals k z bs p = [] := by
  unfold vals
  rw [show bs.length + 1 - p = (bs.length - p) + 1 from by omega, valsF, h]
theorem valsF_len (k z : Int) (bs : List Nat) : ∀ f p, (valsF k z bs f p).length ≤ f
  | 0, _ => Nat.zero_le _
  | f + 1, p => by
    unfold valsF
    cases front k z (bs.drop p) with
    | none => exact Nat.zero_le _
    | some d => simp only [List.length_cons]; have := valsF_len k z bs f (p + dsz k z d); omega
/-- where the last of them ends, from a place on -/
def endF (k z : Int) (p : Nat) (l : List (Nat × Dat)) : Nat := match l.getLast? with
  | none => p
  | some x => x.1 + dsz k z x.2
def dats (l : List (Nat × Dat)) : List Dat := l.map Prod.snd
theorem endF_snoc (k z : Int) (p : Nat) (l : List (Nat × Dat)) (x : Nat × Dat) : endF k z p (l ++ [x]) = x.1 + dsz k z x.2 := by simp [endF]
theorem endF_cons (k z : Int) (p : Nat) (x : Nat × Dat) (l : List (Nat × Dat)) : endF k z p (x :: l) = endF k z (x.1 + dsz k z x.2) l := by
  unfold endF
  cases l with
  | nil => rfl
  | cons y l => simp [List.getLast?_cons_cons]; cases h : (y :: l).getLast? <;> simp_all
/-- so many data are those in front of the whole ones -/
theorem rds_vals {k z : Int} {bs : List Nat} (hc : chkB k z = true) (h0 : k ≠ 0) : ∀ (n p : Nat), p ≤ bs.length → rds k z n (bs.drop p) = if n ≤ (vals k z bs p).length then some (dats ((vals k z bs p).take n), bs.drop (endF k z p ((vals k z bs p).take n))) else none
  | 0, p, hp => by simp [rds, dats, endF]
  | n + 1, p, hp => by
    unfold rds
    cases h : front k z (bs.drop p) with
    | none =>
      rw [vals_none hp h]
      simp
    | some d =>
      obtain ⟨h1, h2, _⟩ := front_size hc h0 h
      rw [List.length_drop] at h2
      have ih := rds_vals (bs := bs) hc h0 n (p + dsz k z d) (by omega)
      rw [vals_some hc h0 hp h]
      simp only [List.drop_drop, List.length_cons, List.take_succ_cons, endF_cons]
      rw [ih]
      by_cases hn : n ≤ (vals k z bs (p + dsz k z d)).length
      · rw [if_pos hn, if_pos (by omega)]
        rfl
      · rw [if_neg hn, if_neg (by omega)]
end Go.Proofs.Ytdglobonbhkheaa
