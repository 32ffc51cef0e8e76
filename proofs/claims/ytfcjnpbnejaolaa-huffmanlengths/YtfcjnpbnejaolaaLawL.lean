/-
  What the law of least lengths asks.
-/
import Derived.Test.YtfcjnpbnejaolaaLst
import Derived.Test.YtfcjnpbnejaolaaRfs
import Derived.Test.YtfcjnpbnejaolaaRiseB
namespace Go.Proofs.Ytfcjnpbnejaolaa
set_option linter.unusedVariables false
set_option linter.unusedSimpArgs false

theorem lens_law (m : List Nat) (L : Nat) (hL : 1 ≤ L) (h15 : L ≤ 15) (hn : (syms m).length ≤ 2 ^ L) (i : Nat) :
    (lensOf m (syms m) L).getD i 0 ≤ L ∧ ((lensOf m (syms m) L).getD i 0 = 0 ↔ m.getD i 0 = 0) ∧ ((syms m).length = 1 → (lensOf m (syms m) L).getD i 0 ≤ 1) := by
  by_cases h2 : (syms m).length < 2
  · have e : lensOf m (syms m) L = lng (List.replicate m.length 0) (syms m) := by unfold lensOf; rw [if_pos h2]
    have hl : ∀ x ∈ syms m, x < (List.replicate m.length 0).length := fun x hx => by
      rw [List.length_replicate]
      exact some1_lt m _ x ((syms_perm m).mem_iff.1 hx)
    have z0 : (List.replicate m.length 0).getD i 0 = 0 := by
      simp only [List.getD, List.getElem?_replicate]
      split <;> simp
    rw [e, lng_at _ _ _ (syms_nodup m) hl, z0, Nat.zero_add]
    have hm := syms_mem m i
    by_cases h3 : i ∈ syms m
    · rw [if_pos h3]
      have := (hm.1 h3).2
      exact ⟨hL, by omega, fun _ => Nat.le_refl _⟩
    · rw [if_neg h3]
      refine ⟨Nat.zero_le _, ⟨fun _ => ?_, fun _ => rfl⟩, fun _ => Nat.zero_le _⟩
      rcases Nat.eq_zero_or_pos (m.getD i 0) with h | h
      · exact h
      · exfalso
        refine h3 (hm.2 ⟨?_, h⟩)
        rcases Nat.lt_or_ge i m.length with h4 | h4
        · exact h4
        · simp [List.getD, List.getElem?_eq_none h4] at h
  · obtain ⟨_, h3⟩ := lens_whole m L hL h15 (by omega) hn
    exact ⟨(h3 i).1, (h3 i).2, fun h => by omega⟩
theorem smK_le15 (m v : List Nat) (hm : ∀ i, m.getD i 0 ≤ 2147483647) (hv : ∀ i, v.getD i 0 ≤ 15) : ∀ k, smK (nm m) (nm v) k ≤ k * 32212254705
  | 0 => Nat.le_refl _
  | k + 1 => by
    have h := smK_le15 m v hm hv k
    rw [smK, nm_getD, nm_getD]
    simp only [Int.toNat_natCast]
    have h2 := Nat.mul_le_mul (hm k) (hv k)
    rw [Nat.add_mul]
    omega
theorem lens_len (m : List Nat) (L : Nat) : (lensOf m (syms m) L).length = m.length := by
  unfold lensOf
  split
  · rw [lng_len]; simp
  · rw [back_len]; simp
/-- all that the law asks of lengths that are not refused -/
structure LawF (m : List Nat) (a1 : Int) (V : List Nat) (L : Nat) : Prop where
  lim : a1 = (L : Int) ∧ 1 ≤ L ∧ L ≤ 15
  at_ : ∀ i, V.getD i 0 ≤ L ∧ (V.getD i 0 = 0 ↔ m.getD i 0 = 0) ∧ ((syms m).length = 1 → V.getD i 0 ≤ 1)
  len : V.length = m.length
  few : (syms m).length ≤ 2 ^ L
  small : ∀ x ∈ m, x ≤ 2147483647
  long : m.length ≤ 1000
  no : refu 15 (nm V) = 0
  wei : 2 ≤ (syms m).length → weiV (nm V) = 32768
  cost : 2 ≤ (syms m).length → costV (nm m) (nm V) = ((sumT (stp (sgl m (syms m)) (L - 1)) (2 * (syms m).length - 2) : Nat) : Int)
theorem law_facts {m : List Nat} {a1 : Int} (h0 : lenR (nm m) a1 = 0) : ∃ L, LawF m a1 (lenV (nm m) a1) L := by
  obtain ⟨m', hm', h31, g1, g2, g3⟩ := lenR_nm h0
  have hmm : m = m' := by
    have := congrArg (List.map Int.toNat) hm'
    rwa [nm_toNat, nm_toNat] at this
  subst hmm
  obtain ⟨L, hL⟩ : ∃ L : Nat, a1 = (L : Int) := ⟨a1.toNat, by omega⟩
  subst hL
  have hfew : (syms m).length ≤ 2 ^ L := by
    unfold lenR at h0
    rw [if_neg (by omega)] at h0
    by_cases h1 : refu 2147483647 (nm m) = 0
    · rw [if_neg (fun h => h h1), nm_toNat, Int.toNat_natCast] at h0
      by_cases h2 : 2 ^ L < (syms m).length
      · rw [if_pos h2] at h0; omega
      · omega
    · rw [if_pos h1] at h0
      exact absurd h0 h1
  have hV : lenV (nm m) (L : Int) = lensOf m (syms m) L := by rw [lenV_nm, Int.toNat_natCast]
  rw [hV]
  have hat := lens_law m L (by omega) (by omega) hfew
  have h15 : ∀ x ∈ lensOf m (syms m) L, x ≤ 15 := fun x hx => by
    obtain ⟨k, hk, rfl⟩ := List.getElem_of_mem hx
    have := (hat k).1
    rw [getD_eq hk] at this
    omega
  have hno : refu 15 (nm (lensOf m (syms m) L)) = 0 := by
    unfold refu
    rw [if_neg, if_neg]
    · rw [nm_len, lens_len]; rw [nm_len] at g3; omega
    · intro h
      obtain ⟨x, hx, hb⟩ := List.any_eq_true.1 h
      obtain ⟨y, hy, rfl⟩ := List.mem_map.1 hx
      have := h15 y hy
      unfold bad at hb
      simp at hb
      omega
  refine ⟨L, ⟨rfl, by omega, by omega⟩, hat, lens_len m L, hfew, h31, by rw [nm_len] at g3; exact g3, hno, fun h2 => ?_, fun h2 => ?_⟩
  · unfold weiV
    rw [if_neg (fun h => h hno), nm_toNat, (lens_whole m L (by omega) (by omega) h2 hfew).1]
    rfl
  · have hc := cost_lens m L h2 (by omega) hfew
    have hb := smK_le15 m (lensOf m (syms m) L) (getD_le h31) (fun i => by have := (hat i).1; omega) m.length
    unfold costV
    rw [nm_len, nm_len, lens_len, Nat.min_self, hc]
    rw [hc] at hb
    rw [nm_len] at g3
    have : m.length * 32212254705 ≤ 1000 * 32212254705 := Nat.mul_le_mul_right _ (by omega)
    congr 1
    omega
end Go.Proofs.Ytfcjnpbnejaolaa
