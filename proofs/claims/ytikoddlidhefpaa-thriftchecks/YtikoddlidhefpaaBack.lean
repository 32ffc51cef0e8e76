/-
  There and back: what is laid is parsed as it was.
-/
import Derived.Test.YtikoddlidhefpaaJ4
import Derived.Test.YtikoddlidhefpaaNumBack
import Derived.Test.YtikoddlidhefpaaJ6
namespace Go.Proofs.Ytikoddlidhefpaa
set_option linter.unusedVariables false
open Go.ChangeShapes Go.WideShapes Go.ChangeAt Go.RowKit Go.Deep

/-- a row without its marks -/
def nt : Fo → Fo
  | .nil => .nil
  | .node _ _ p c r => .node 0 0 p (nt c) (nt r)
def fcat : Fo → Fo → Fo
  | .nil, g => g
  | .node b o p c r, g => .node b o p c (fcat r g)
theorem fcat_nil : ∀ f : Fo, fcat f .nil = f
  | .nil => rfl
  | .node b o p c r => by simp [fcat, fcat_nil r]
theorem fcat_snoc : ∀ (f : Fo) (p : Pay) (c g : Fo), fcat (fsnoc f p c) g = fcat f (.node 0 0 p c g)
  | .nil, _, _, _ => rfl
  | .node b o q d r, p, c, g => by simp [fcat, fsnoc, fcat_snoc r p c g]
theorem flen_nt : ∀ f : Fo, flen (nt f) = flen f
  | .nil => rfl
  | .node b o p c r => by simp [nt, flen, flen_nt r]
theorem ba_ext {a b : ByteArray} (h : a.toList = b.toList) : a = b := by
  rw [ByteArray.toList_eq, ByteArray.toList_eq] at h
  exact ByteArray.ext (Array.toList_inj.1 h)
theorem sameP_eq {p q : Pay} (h : sameP p q = true) : p = q := by
  simp only [sameP, decide_eq_true_eq] at h
  obtain ⟨h1, h2, h3, h4, h5, h6⟩ := h
  have h5' := ba_ext h5
  cases p; cases q
  simp_all
theorem sameP_refl (p : Pay) : sameP p p = true := by simp [sameP]
theorem sameF_nil {c : Fo} (h : sameF c .nil = true) : c = .nil := by
  cases c with
  | nil => rfl
  | node => simp [sameF] at h
theorem sameF_nt : ∀ c : Fo, sameF c (nt c) = true
  | .nil => rfl
  | .node b o p c r => by rw [nt, sameF_node, sameP_refl, sameF_nt c, sameF_nt r]; rfl
/-- what a value may hold, by its Kind -/
theorem bare_cases {p : Pay} {c : Fo} (h : bareB p c = true) :
    (p.kind = 8 → p = ⟨8, 0, 0, 0, p.text, []⟩ ∧ c = .nil) ∧ (p.kind = 9 → p = ⟨9, 0, p.elem, 0, noText, []⟩) ∧ (p.kind = 11 → p = ⟨11, p.key, p.elem, 0, noText, []⟩) ∧ (p.kind = 12 → p = ⟨12, 0, 0, 0, noText, p.ids⟩) ∧
    (¬ p.kind = 8 → ¬ p.kind = 9 → ¬ p.kind = 11 → ¬ p.kind = 12 → p = scal p.kind p.num ∧ c = .nil) := by
  simp only [bareB, Bool.and_eq_true] at h
  have h1 := sameP_eq h.1
  have h2 := sameF_nil h.2
  obtain ⟨k, y, z, n, x, l⟩ := p
  unfold clrP zeroP at h1
  unfold clrF at h2
  refine ⟨fun e => ?_, fun e => ?_, fun e => ?_, fun e => ?_, fun e8 e9 e11 e12 => ?_⟩
  · dsimp only at e; subst e; simp at h1 h2; obtain ⟨rfl, rfl, rfl, rfl⟩ := h1; exact ⟨rfl, h2⟩
  · dsimp only at e; subst e; simp at h1; obtain ⟨rfl, rfl, rfl, rfl⟩ := h1; rfl
  · dsimp only at e; subst e; simp at h1; obtain ⟨rfl, rfl, rfl⟩ := h1; rfl
  · dsimp only at e; subst e; simp at h1; obtain ⟨rfl, rfl, rfl, rfl⟩ := h1; rfl
  · dsimp only at e8 e9 e11 e12 h1 h2
    simp only [if_neg e8, if_neg e9, if_neg e11, if_neg e12] at h1
    simp at h1
    obtain ⟨rfl, rfl, rfl, rfl⟩ := h1
    rw [if_neg (by omega)] at h2
    exact ⟨rfl, h2⟩
theorem txt_list (s : ByteArray) : txt (s.data.toList.map UInt8.toNat) = s := by
  apply ba_ext
  rw [ByteArray.toList_eq, ByteArray.toList_eq]
  simp [txt, strOfNums, List.map_map]
  apply List.ext_getElem?
  intro i
  simp
  cases s.data[i]? <;> simp
theorem leaf_back (p : Pay) (c : Fo) (h : inOrderB p c = true) (h9 : ¬ p.kind = 9) (h11 : ¬ p.kind = 11) (h12 : ¬ p.kind = 12) (hn : i64ok p.num) (rest : List Nat) : rLeaf p.kind (valB p c ++ rest) = .ok ((p, .nil), rest) ∧ c = .nil := by
  simp only [inOrderB, Bool.and_eq_true] at h
  obtain ⟨hb, hk⟩ := h
  obtain ⟨b8, _, _, _, bs⟩ := bare_cases hb
  by_cases h8 : p.kind = 8
  · obtain ⟨e, rfl⟩ := b8 h8
    refine ⟨?_, rfl⟩
    rw [e] at hk ⊢
    generalize p.text = x at *
    simp [kindB] at hk
    have hv : valB ⟨8, 0, 0, 0, x, []⟩ .nil = numB x.size ++ x.data.toList.map UInt8.toNat := by simp [valB, preB]
    rw [hv]
    simp only [rLeaf]
    simp
    unfold rTextV
    rw [rNum_back _ (by omega) (Nat.zero_le _) hk]
    have hl := text_len x
    dsimp only
    unfold rText
    rw [if_neg (by rw [List.length_append, hl]; omega), List.take_left' hl, List.drop_left' hl, txt_list]
  · obtain ⟨e, rfl⟩ := bs h8 h9 h11 h12
    refine ⟨?_, rfl⟩
    generalize p.kind = k at *
    generalize p.num = n at *
    subst e
    have hk' : (if k = 1 then n == 0 || n == 1 else if 3 ≤ k ∧ k ≤ 7 then fitB n (bitsZ k) else false) = true := by
      rw [← hk]
      unfold kindB
      show _ = if k = 1 then n == 0 || n == 1 else if 3 ≤ k ∧ k ≤ 7 then fitB n (bitsZ k) else if k = 8 then _ else if k = 9 then _ else if k = 11 then _ else if k = 12 then _ else false
      rw [if_neg h8, if_neg h9, if_neg h11, if_neg h12]
    replace hk := hk'
    clear hk'
    by_cases k1 : k = 1
    · subst k1
      simp at hk
      rcases hk with rfl | rfl <;> rfl
    by_cases k3 : k = 3
    · subst k3
      simp [fitB, bitsZ] at hk
      have hm : (n % 256).toNat < 256 := by omega
      have hv : valB (scal 3 n) .nil = [(n % 256).toNat] := by simp [valB, preB, scal]
      rw [hv]
      show Except.ok ((scal 3 (if (n % 256).toNat < 128 then ((n % 256).toNat : Int) else ((n % 256).toNat : Int) - 256), Deep.BT.nil), rest) = _
      have : (if (n % 256).toNat < 128 then ((n % 256).toNat : Int) else ((n % 256).toNat : Int) - 256) = n := by split <;> omega
      rw [this]
    have sig : ∀ (most : Nat), (most ≤ 18446744073709551615) → zig n ≤ most → (k = 4 ∨ k = 5 ∨ k = 6) → rSigned k most (valB (scal k n) .nil ++ rest) = .ok ((scal k n, .nil), rest) := by
      intro most hm hz h456
      have hv : valB (scal k n) .nil = numB (zig n) := by
        rcases h456 with rfl | rfl | rfl <;> simp [valB, preB, scal]
      rw [hv]
      unfold rSigned
      rw [rNum_back _ (by omega) (Nat.zero_le _) hz]
      dsimp only
      rw [unzig_zig hn]
    obtain ⟨hn0, hn1⟩ := hn
    by_cases k4 : k = 4
    · subst k4
      simp [fitB, bitsZ] at hk
      exact sig 65535 (by omega) (by unfold zig zz; split <;> omega) (.inl rfl)
    by_cases k5 : k = 5
    · subst k5
      simp [fitB, bitsZ] at hk
      exact sig 4294967295 (by omega) (by unfold zig zz; split <;> omega) (.inr (.inl rfl))
    by_cases k6 : k = 6
    · subst k6
      exact sig 18446744073709551615 (by omega) (by unfold zig zz; split <;> omega) (.inr (.inr rfl))
    by_cases k7 : k = 7
    · subst k7
      have hv : valB (scal 7 n) .nil = leB 8 (n % 18446744073709551616).toNat := by simp [valB, preB, scal]
      rw [hv]
      have e7 : ∀ bs, rLeaf 7 bs = rDouble bs := fun bs => by simp [rLeaf]
      rw [e7]
      unfold rDouble
      have key : ∀ N : Nat, N < 18446744073709551616 → rDblF 8 0 (leB 8 N ++ rest) = .ok (N, rest) := by
        intro N hN
        simp only [leB, rDblF, List.cons_append, List.nil_append]
        congr 2
        omega
      rw [key _ (by omega)]
      dsimp only
      congr 3
      have : wrap64 (((n % 18446744073709551616).toNat : Nat) : Int) = n := by unfold wrap64; omega
      rw [this]
    · exfalso
      rw [if_neg k1, if_neg (by omega)] at hk
      cases hk
end Go.Proofs.Ytikoddlidhefpaa
