/-
  What the walks say of slices that came in or that the call made: sources of an append, nil or not.
-/
import Derived.Test.YtdglobonbhkheaaBase
import Derived.WalkKit
import Derived.ProofKit
import Derived.OpenShut
import Derived.WalkSpells
import Derived.OwnWalk
import Derived.Laws.AppendOwnNone
import Derived.Laws.OwnMore
namespace Go.Proofs.Ytdglobonbhkheaa
open Go.ChangeShapes Go.WideShapes Go.ChangeAt Go.RowKit

/-- a slice of numbers that came in: nil, or a row of 'cap' cells, the numbers 'zs', of which the first 'len' are its elements -/
def IsRow (k : IntKind) (w : World) (a : Option Addr) (len cap : Nat) (zs : List Int) : Prop :=
  (a = none ∧ len = 0 ∧ cap = 0 ∧ zs = []) ∨
  ∃ x, a = some x ∧ len ≤ cap ∧ cap ≤ maxLen ∧ zs.length = cap ∧ (∀ i, i < zs.length → w.cell? (x.add i) = some (.int k (zs.getD i 0))) ∧ ∀ n ∈ zs, (Lit.int k n).wf = true

theorem IsRow.len_le {k : IntKind} {w : World} {a : Option Addr} {len cap : Nat} {zs : List Int} (h : IsRow k w a len cap zs) : len ≤ zs.length ∧ zs.length = cap := by
  rcases h with ⟨_, rfl, rfl, rfl⟩ | ⟨x, _, h1, _, h2, _⟩
  · simp
  · omega
theorem IsRow.src {k : IntKind} {w : World} {a : Option Addr} {len cap : Nat} {zs : List Int} (h : IsRow k w a len cap zs) : Src w a len cap ((zs.take len).map (Value.int k)) := by
  rcases h with ⟨rfl, rfl, rfl, rfl⟩ | ⟨x, rfl, h1, _, h2, h3, _⟩
  · exact ⟨rfl, .inl ⟨rfl, rfl, rfl⟩⟩
  · refine ⟨by simp; omega, .inr ⟨x, rfl, fun j u hj => ?_⟩⟩
    have hl : j < len ∧ j < zs.length := by
      rcases Nat.lt_or_ge j ((zs.take len).map (Value.int k)).length with hh | hh
      · simp at hh; omega
      · rw [List.getElem?_eq_none hh] at hj; cases hj
    rw [h3 j hl.2]
    simp [hl.1, List.getElem?_eq_getElem hl.2] at hj
    subst hj
    simp [List.getD, List.getElem?_eq_getElem hl.2]
theorem src_atI {w : World} {ad : Option Addr} {L cap : Nat} {zs : List Int} {k : IntKind} (h : Src w ad L cap (zs.map (Value.int k))) {i : Nat} (hi : i < L) :
    ∃ g off, ad = some ⟨g, off, none⟩ ∧ w.cell? ⟨g, off + i, none⟩ = some (.int k (zs.getD i 0)) := by
  have hl : zs.length = L := by simpa using h.1
  rcases h.2 with ⟨_, h1, _⟩ | ⟨p, h1, h2⟩
  · omega
  · obtain ⟨g, off, spot⟩ := p
    have hc := h2 i (.int k (zs.getD i 0)) (by simp [List.getD, List.getElem?_eq_getElem (show i < zs.length by omega)])
    have hc0 := h2 0 (.int k (zs.getD 0 0)) (by simp [List.getD, List.getElem?_eq_getElem (show 0 < zs.length by omega)])
    have hspot : spot = none := by simpa [Addr.add] using World.cell?_spot hc0
    subst hspot
    refine ⟨g, off, h1, ?_⟩
    rw [← hc]
    unfold Addr.add
    split <;> simp_all
theorem getD_mem {zs : List Int} {i : Nat} (h : i < zs.length) : zs.getD i 0 ∈ zs := by simp [List.getD, List.getElem?_eq_getElem h]

theorem made_zero (k : IntKind) (n : Nat) : (madeCells (Value.int k 0).cells (n * 1)).toList = List.replicate n (Value.int k 0) := by
  have e : (Value.int k 0).cells = #[Value.int k 0] := rfl
  rw [e]
  unfold madeCells
  apply List.ext_getElem
  · simp
  · intro i h1 h2
    simp [Nat.mod_one]
theorem Try.info5 : (Try.prog.info? 5).map (fun i => (i.zero, i.size, i.bytes)) = some (some (.int .u8 0), 1, 1) := by kernel_rfl

end Go.Proofs.Ytdglobonbhkheaa
