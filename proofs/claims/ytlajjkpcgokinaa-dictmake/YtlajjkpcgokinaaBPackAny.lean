/-
  bits.Pack and the reference's Pack answer the same, refusals too: at most 500 numbers.
-/
import Derived.Test.YtlajjkpcgokinaaBRPack
import Derived.Laws.BytesArg
namespace Go.Proofs.Ytlajjkpcgokinaa
open Go.ChangeShapes Go.WideShapes Go.ChangeAt Go.RowKit

def pkNo (wd : Int) (zs : List Int) : Prop := wd < 0 ∨ 64 < wd ∨ wide wd zs = true
/-- in every later world the slice is this text -/
def StrAt (W : World) (v : Value) (T : ByteArray) : Prop := ∀ W', Below W.heap.size W W' → Sem.run Try.prog (convert 34 9 v) W' = .ok (.string T) W'
def ints (l : List Nat) : List Int := l.map fun n : Nat => (n : Int)

theorem c8_ints (l : List Nat) : c8 l = (ints l).map (Value.int .u8) := by simp [c8, ints]
theorem own_below {w w' : World} {B : Nat} {e : TypeId} {s : Nat} {v : Value} {n : Nat} {xs : List Value} (h : w.ownsRow B e s v n xs) (hb : Below w.heap.size w w') : w'.ownsRow B e s v n xs := by
  refine ⟨h.1, ?_⟩
  rcases h.2 with h1 | ⟨g, cap, cur, h1, h2, h3, h4⟩
  · exact .inl h1
  · have hg : g < w.heap.size := by
      rcases Nat.lt_or_ge g w.heap.size with hh | hh
      · exact hh
      · rw [Array.getElem?_eq_none hh] at h3; cases h3
    exact .inr ⟨g, cap, cur, h1, h2, (hb.block g hg).trans h3, h4⟩
theorem str_own {w : World} {B : Nat} {v : Value} {n : Nat} {xs : List Int} (h : w.ownsRow B 5 1 v n (xs.map (Value.int .u8))) :
    Sem.run Try.prog (convert 34 9 v) w = .ok (.string (strOfNums xs)) w := by
  have hl := h.1
  rcases h.2 with ⟨rfl, rfl⟩ | ⟨g, cap, cur, rfl, h2, h3, h4⟩
  · have e : xs = [] := by simpa using hl
    subst e
    exact run_convert_bytes_nil w 34 5 Try.underlying34 Try.underlying5 0 0 9 Try.underlying9
  · refine run_convert_bytes_arg w 34 5 Try.underlying34 Try.underlying5 g 0 n cap xs (by simpa using hl) (fun i hi => ?_) 9 Try.underlying9
    have hx : i < xs.length := by simp at hl; omega
    rw [Nat.zero_add, h.cellAt i (by omega)]
    simp [List.getD, List.getElem?_eq_getElem hx]
theorem strAt_own {w : World} {B : Nat} {v : Value} {n : Nat} {l : List Nat} (h : w.ownsRow B 5 1 v n (c8 l)) : StrAt w v (strOfNums (ints l)) := by
  intro W' hb
  rw [c8_ints] at h
  exact str_own (own_below h hb)
theorem strAt_nil (w : World) : StrAt w (.slice none 0 0) (strOfNums []) := fun W' _ => run_convert_bytes_nil W' 34 5 Try.underlying34 Try.underlying5 0 0 9 Try.underlying9

theorem sze_small {W L : Nat} (hW : W ≤ 64) (hL : L ≤ 500) : sze W L = 0 := by
  have h : L * W ≤ 500 * 64 := Nat.mul_le_mul hL hW
  have h2 : (L : Int) * (W : Int) ≤ 32000 := by rw [← Int.natCast_mul]; omega
  exact (sze_ok (wd := (W : Int)) (ct := (L : Int)) (by omega) (by omega) (by omega)).1

theorem pack_any (ad : Option Addr) (L cap : Nat) (wd : Int) (zs : List Int) (hL : L ≤ 500) (hu : U64 zs) : ∃ (er : Int) (T : ByteArray),
    (∀ w, Src w ad L cap (zs.map (Value.int .u64)) → Calls Try.prog 33 #[.int .i64 wd, .slice ad L cap] w fun e w' => ∃ v, e = .returned (.tuple #[v, .int .i64 er]) ∧ StrAt w' v T ∧ Below w.heap.size w w') ∧
    (∀ w ad' cap', Src w ad' L cap' (zs.map (Value.int .u64)) → Calls Try.prog 55 #[.int .i64 wd, .slice ad' L cap'] w fun e w' => ∃ v, e = .returned (.tuple #[v, .int .i64 er]) ∧ StrAt w' v T ∧ Below w.heap.size w w') := by
  by_cases hno : pkNo wd zs
  · refine ⟨2, strOfNums [], fun w hs => ?_, fun w ad' cap' hs => ?_⟩
    · refine (rpack_no ad L cap wd zs w (by omega) hs hu hno).mono ?_
      rintro e w' ⟨rfl, rfl⟩
      exact ⟨_, rfl, strAt_nil _, Below.refl _ _⟩
    · refine (pack_no ad' L cap' wd zs w (by omega) hs hu hno).mono ?_
      rintro e w' ⟨rfl, hb⟩
      exact ⟨_, rfl, strAt_nil _, hb⟩
  · have h0 : 0 ≤ wd ∧ wd ≤ 64 ∧ wide wd zs = false := by
      unfold pkNo at hno
      refine ⟨by omega, by omega, ?_⟩
      cases hw : wide wd zs
      · rfl
      · exact absurd (Or.inr (Or.inr hw)) hno
    obtain ⟨W, rfl⟩ := Int.eq_ofNat_of_zero_le h0.1
    refine ⟨0, strOfNums (ints (upk 8 ((L * W + 7) / 8) (pk W (nats zs)))), fun w hs => ?_, fun w ad' cap' hs => ?_⟩
    · refine (rpack_yes ad L cap W _ zs w hs hu h0.2.2 (sze_small (by omega) hL) rfl).mono ?_
      rintro e w' ⟨v, rfl, hown, hb⟩
      exact ⟨_, rfl, strAt_own hown, hb⟩
    · refine (pack_yes ad' L cap' W _ zs w hs hu h0.2.2 (sze_small (by omega) hL) rfl).mono ?_
      rintro e w' ⟨v, rfl, hown, hb⟩
      exact ⟨_, rfl, strAt_own hown, hb⟩
end Go.Proofs.Ytlajjkpcgokinaa
