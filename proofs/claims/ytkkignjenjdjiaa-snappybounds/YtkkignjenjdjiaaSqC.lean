/-
  The writer: bytes and copies as parts.
-/
import Derived.Test.YtkkignjenjdjiaaSqB
namespace Go.Proofs.Ytkkignjenjdjiaa
set_option linter.unusedVariables false
set_option linter.unusedSimpArgs false
open Go.ChangeShapes Go.WideShapes Go.ChangeAt Go.RowKit

/-- bytes as a part -/
def bytB (l : List Nat) : List Nat :=
  if l.length = 0 then [] else
  (if l.length - 1 < 60 then [(l.length - 1) * 4] else if l.length - 1 < 256 then [240, l.length - 1] else if l.length - 1 < 65536 then [244, (l.length - 1) % 256, (l.length - 1) / 256] else [248, (l.length - 1) % 256, (l.length - 1) / 256 % 256, (l.length - 1) / 65536]) ++ l

set_option maxRecDepth 100000 in
set_option maxHeartbeats 2000000 in
theorem layBytes_any (w : World) (B n cp : Nat) (a : Option Addr) (out l : List Nat) (hs : Src w a n cp (c8 l)) (hold : ∀ g off, a = some ⟨g, off, none⟩ → g < B) (hn : n ≤ 1048576) (hl : out.length ≤ 2097152) (h : Wr w B out) :
    Calls Try.prog 29 #[.func (.func 25) #[] #[.pointer (some ⟨B, 0, none⟩)], .slice a n cp] w fun e w' => e = .returned (.tuple #[]) ∧ Wr w' B (out ++ bytB l) ∧ WF B w w' := by
  have hln : l.length = n := by have := hs.1; rwa [c8_len] at this
  unfold bytB
  rw [hln]
  by_cases h0 : n = 0
  · subst h0
    rw [if_pos rfl, List.append_nil]
    go_enter Try.func29, Try.ntmps29
    go_wp2_with fail
    first | go_end0 | refine bodyPost_ret (results_none rfl _ _ _) rfl ?_
    exact ⟨rfl, h, WF.refl _ _⟩
  rw [if_neg h0]
  obtain ⟨g, off, rfl, _⟩ := src_at hs (j := 0) (by omega)
  have hgB := hold g off rfl
  have h0' : ¬ (n : Int) = 0 := by omega
  obtain ⟨m, hm⟩ : ∃ m, m = n - 1 := ⟨_, rfl⟩
  have hmi : (n : Int) - 1 = (m : Int) := by omega
  rw [← hm]
  have hmb : (m : Int) ≤ 1048576 := by omega
  have HS : Hid (Src w (some ⟨g, off, none⟩) n cp (c8 l)) := hs
  have hBl := h.lt
  -- the bytes themselves, behind the head
  have L2 : ∀ hd : List Nat, hd.length ≤ 4 → ∀ w1, Wr w1 B (out ++ hd) → WF B w w1 → Calls Try.prog 25 #[.slice (some ⟨g, off, none⟩) n cp, .pointer (some ⟨B, 0, none⟩)] w1 fun e w' => e = .returned (.tuple #[]) ∧ Wr w' B (out ++ (hd ++ l)) ∧ WF B w w' := by
    intro hd hd4 w1 k1 k2
    have hs1 : Src w1 (some ⟨g, off, none⟩) n cp (c8 l) := by
      refine ⟨HS.out.1, ?_⟩
      rcases HS.out.2 with ⟨e, _⟩ | ⟨p, e, hp⟩
      · cases e
      · cases e
        refine .inr ⟨_, rfl, fun j u hj => ?_⟩
        have hc := hp j u hj
        have hblk : ((⟨g, off, none⟩ : Addr).add j).block = g := by unfold Addr.add; split <;> simp_all
        rw [World.cell?_of_block (w := w) (w' := w1) (by rw [hblk]; exact k2.block g (by omega) (by omega) (.inl hgB))]
        exact hc
    refine (lay_any w1 B g off n cp (out ++ hd) l hs1 (by simp; omega) k1).mono ?_
    rintro e w' ⟨rfl, q1, q2⟩
    exact ⟨rfl, by rw [← List.append_assoc]; exact q1, k2.trans q2⟩
  by_cases c1 : m < 60
  · rw [if_pos c1]
    have c1' : (m : Int) < 60 := by omega
    obtain ⟨q, hq⟩ : ∃ q, q = m * 4 := ⟨_, rfl⟩
    have hqi : (m : Int) * 4 = (q : Int) := by omega
    have hql : (q : Int) < 256 := by omega
    have K := lay_new w B out [q] (by simp; omega) h
    simp only [c8, List.map_cons, List.map_nil, List.length_cons, List.length_nil, Nat.zero_add] at K
    have L3 := L2 [q] (by simp)
    rw [← hq]
    clear hq hm L2 hs hln
    go_enter Try.func29, Try.ntmps29
    go_wp2_with fail
    refine K.mono ?_
    rintro e wx ⟨rfl, hw, hfx⟩
    go_wp2_with fail
    refine (L3 wx hw hfx).mono ?_
    rintro e wy ⟨rfl, hwy, hfy⟩
    go_wp2_with fail
    go_end0
    exact ⟨rfl, hwy, hfy⟩
  rw [if_neg c1]
  have c1' : (60 : Int) ≤ (m : Int) := by omega
  by_cases c2 : m < 256
  · rw [if_pos c2]
    have c2' : (m : Int) < 256 := by omega
    have K := lay_new w B out [240, m] (by simp; omega) h
    simp only [c8, List.map_cons, List.map_nil, List.length_cons, List.length_nil, Nat.zero_add] at K
    have L3 := L2 [240, m] (by simp)
    clear hm L2 hs hln
    go_enter Try.func29, Try.ntmps29
    go_wp2_with fail
    refine K.mono ?_
    rintro e wx ⟨rfl, hw, hfx⟩
    go_wp2_with fail
    refine (L3 wx hw hfx).mono ?_
    rintro e wy ⟨rfl, hwy, hfy⟩
    go_wp2_with fail
    go_end0
    exact ⟨rfl, hwy, hfy⟩
  rw [if_neg c2]
  have c2' : (256 : Int) ≤ (m : Int) := by omega
  obtain ⟨b0, hb0⟩ : ∃ b0, b0 = m % 256 := ⟨_, rfl⟩
  have hb0i : IntKind.u8.wrap (m : Int) = (b0 : Int) := by rw [conv8, hb0]
  obtain ⟨d1, hd1⟩ : ∃ d1, d1 = m / 256 := ⟨_, rfl⟩
  have hd1i : (m : Int) / 256 = (d1 : Int) := by omega
  obtain ⟨b1, hb1⟩ : ∃ b1, b1 = d1 % 256 := ⟨_, rfl⟩
  have hb1i : IntKind.u8.wrap (d1 : Int) = (b1 : Int) := by rw [conv8, hb1]
  by_cases c3 : m < 65536
  · rw [if_pos c3]
    have c3' : (m : Int) < 65536 := by omega
    have hbd : b1 = d1 := by omega
    rw [← hb0, ← hd1]
    have K := lay_new w B out [244, b0, d1] (by simp; omega) h
    simp only [c8, List.map_cons, List.map_nil, List.length_cons, List.length_nil, Nat.zero_add] at K
    have L3 := L2 [244, b0, d1] (by simp)
    have hd1l : (d1 : Int) < 256 := by omega
    obtain ⟨M, hM⟩ : ∃ M : Int, M = (m : Int) := ⟨_, rfl⟩
    rw [← hM] at hmi c1' c2' c3' hb0i hd1i
    have hM0 : 0 ≤ M := by omega
    clear hm L2 hs hln hb0 hd1 hb1 hbd hb1i hM hmb c1 c2 c3
    go_enter Try.func29, Try.ntmps29
    go_wp2_with fail
    refine K.mono ?_
    rintro e wx ⟨rfl, hw, hfx⟩
    go_wp2_with fail
    refine (L3 wx hw hfx).mono ?_
    rintro e wy ⟨rfl, hwy, hfy⟩
    go_wp2_with fail
    go_end0
    exact ⟨rfl, hwy, hfy⟩
  rw [if_neg c3]
  have c3' : (65536 : Int) ≤ (m : Int) := by omega
  obtain ⟨d2, hd2⟩ : ∃ d2, d2 = m / 65536 := ⟨_, rfl⟩
  have hd2i : (m : Int) / 65536 = (d2 : Int) := by omega
  have hd2l : (d2 : Int) < 256 := by omega
  rw [← hb0, ← hd1, ← hb1, ← hd2]
  have K := lay_new w B out [248, b0, b1, d2] (by simp; omega) h
  simp only [c8, List.map_cons, List.map_nil, List.length_cons, List.length_nil, Nat.zero_add] at K
  have L3 := L2 [248, b0, b1, d2] (by simp)
  obtain ⟨M, hM⟩ : ∃ M : Int, M = (m : Int) := ⟨_, rfl⟩
  obtain ⟨D, hD⟩ : ∃ D : Int, D = (d1 : Int) := ⟨_, rfl⟩
  rw [← hM] at hmi c1' c2' c3' hb0i hd1i hd2i hmb
  rw [← hD] at hd1i hb1i
  have hM0 : 0 ≤ M := by omega
  have hD0 : 0 ≤ D := by omega
  have hDl : D ≤ 4096 := by omega
  clear hm L2 hs hln hb0 hd1 hb1 hd2 hM hD c1 c2 c3
  go_enter Try.func29, Try.ntmps29
  go_wp2_with fail
  refine K.mono ?_
  rintro e wx ⟨rfl, hw, hfx⟩
  go_wp2_with fail
  refine (L3 wx hw hfx).mono ?_
  rintro e wy ⟨rfl, hwy, hfy⟩
  go_wp2_with fail
  go_end0
  exact ⟨rfl, hwy, hfy⟩
end Go.Proofs.Ytkkignjenjdjiaa
