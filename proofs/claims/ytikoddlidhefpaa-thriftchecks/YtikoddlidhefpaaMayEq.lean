/-
  thrift's and the reference's answers to which values may be are one.
-/
import Derived.Test.YtikoddlidhefpaaRMayB
namespace Go.Proofs.Ytikoddlidhefpaa
set_option linter.unusedVariables false
set_option linter.unusedSimpArgs false
open Go.ChangeShapes Go.WideShapes Go.ChangeAt Go.RowKit Go.Deep

theorem sameF_nilM (c : Fo) : sameF c .nil = decide (flen c = 0) := by
  cases c with
  | nil => rfl
  | node _ _ _ _ r => simp [sameF, flen]
theorem zero_list : ({ data := #[] } : ByteArray).toList = [] := by unfold ByteArray.toList ByteArray.toList.loop; rfl
theorem bare_eq (p : Pay) (c : Fo) (hk : knownB p.kind = true) : bareB p c = rbareB p c := by
  rw [known_true] at hk
  have hkk : p.kind = 1 ∨ p.kind = 3 ∨ p.kind = 4 ∨ p.kind = 5 ∨ p.kind = 6 ∨ p.kind = 7 ∨ p.kind = 8 ∨ p.kind = 9 ∨ p.kind = 11 ∨ p.kind = 12 := by omega
  obtain ⟨k, y, z, n, x, l⟩ := p
  simp only at hkk
  rw [Bool.eq_iff_iff]
  have hl : l.length = 0 ↔ l = [] := List.length_eq_zero_iff
  rcases hkk with rfl | rfl | rfl | rfl | rfl | rfl | rfl | rfl | rfl | rfl <;>
    (simp [bareB, rbareB, rbB, clrP, clrF, sameP, zeroP, sameF_nilM, zero_list, flen, sameF]) <;> (first | (intros; constructor <;> (intro h; simp_all)) | (constructor <;> (intro h; simp_all)) | omega)

theorem loop_len (x : ByteArray) : ∀ (n i : Nat) (r : List UInt8), x.size - i = n → (ByteArray.toList.loop x i r).length = r.length + n
  | 0, i, r, h => by
    unfold ByteArray.toList.loop
    rw [if_neg (by omega)]
    simp
  | n + 1, i, r, h => by
    unfold ByteArray.toList.loop
    rw [if_pos (by omega), loop_len x n (i + 1) _ (by omega)]
    simp
    omega
theorem toList_len (x : ByteArray) : x.toList.length = x.size := by
  unfold ByteArray.toList
  rw [loop_len x x.size 0 [] (by omega)]
  simp

theorem rkF_9 (y e : Int) : ∀ (c : Fo) (i : Nat), rkF 9 y e i c = kindsBy [e] i c
  | .nil, _ => rfl
  | .node _ _ p _ r, i => by
    unfold rkF kindsBy
    rw [rkF_9 y e r (i + 1)]
    simp [Nat.mod_one]
    rfl
theorem rkF_11 (y e : Int) : ∀ (c : Fo) (i : Nat), rkF 11 y e i c = kindsBy [y, e] i c
  | .nil, _ => rfl
  | .node _ _ p _ r, i => by
    unfold rkF kindsBy
    rw [rkF_11 y e r (i + 1)]
    rcases Nat.mod_two_eq_zero_or_one i with h | h
    · simp [h]
      rfl
    · simp [h]
      rfl
theorem rkF_12 (y e : Int) : ∀ (c : Fo) (i : Nat), rkF 12 y e i c = true
  | .nil, _ => rfl
  | .node _ _ p _ r, i => by
    unfold rkF
    rw [rkF_12 y e r (i + 1)]
    simp
theorem rkF_0 (k y e : Int) (c : Fo) (h : flen c = 0) : rkF k y e 0 c = true := by
  cases c with
  | nil => rfl
  | node _ _ _ _ r => simp [flen] at h

theorem order_eq (p : Pay) (c : Fo) : inOrderB p c = (rfrontB p c && rmidB p c && risingB p.ids 0) := by
  cases hk : knownB p.kind
  · have h1 : kindB p c = false := by
      have hn : ¬ (p.kind = 1 ∨ (3 ≤ p.kind ∧ p.kind ≤ 9) ∨ p.kind = 11 ∨ p.kind = 12) := by rw [← known_true, hk]; simp
      unfold kindB
      rw [if_neg (by omega), if_neg (by omega), if_neg (by omega), if_neg (by omega), if_neg (by omega), if_neg (by omega)]
    simp [inOrderB, h1, rfrontB, hk]
  · unfold inOrderB
    rw [bare_eq p c hk]
    cases hb : rbareB p c
    · simp [rfrontB, hb]
    · have hx : p.text.toList = [] → p.text.size = 0 := by intro h; rw [← toList_len, h]; rfl
      have hc0 := bare_kinds hk hb
      simp only [rbareB, rbB, Bool.and_eq_true, Bool.or_eq_true, decide_eq_true_eq, beq_iff_eq] at hb
      rw [known_true] at hk
      have hkk : p.kind = 1 ∨ p.kind = 3 ∨ p.kind = 4 ∨ p.kind = 5 ∨ p.kind = 6 ∨ p.kind = 7 ∨ p.kind = 8 ∨ p.kind = 9 ∨ p.kind = 11 ∨ p.kind = 12 := by omega
      obtain ⟨k, y, z, n, x, l⟩ := p
      simp only at hkk hb hx hc0
      have hbb : rbareB ⟨k, y, z, n, x, l⟩ c = true := by
        simp only [rbareB, rbB, Bool.and_eq_true, Bool.or_eq_true, decide_eq_true_eq, beq_iff_eq]
        exact hb
      obtain ⟨⟨⟨⟨⟨q1, q2⟩, q3⟩, q4⟩, q5⟩, q6⟩ := hb
      rcases hkk with rfl | rfl | rfl | rfl | rfl | rfl | rfl | rfl | rfl | rfl
      · -- a truth
        have e1 : x.size = 0 := hx (by simpa using q2)
        have e2 : l = [] := List.length_eq_zero_iff.1 (by simpa using q5)
        have e3 : flen c = 0 := by simpa using q6
        subst e2
        rw [Bool.eq_iff_iff]
        simp [kindB, rfrontB, hbb, rkindsB, rkF_0 _ _ _ _ e3, rbitsZ, fitB, rmidB, e1, risingB, knownB]
        omega
      · have e1 : x.size = 0 := hx (by simpa using q2)
        have e2 : l = [] := List.length_eq_zero_iff.1 (by simpa using q5)
        have e3 : flen c = 0 := by simpa using q6
        subst e2
        rw [Bool.eq_iff_iff]
        simp [kindB, rfrontB, hbb, rkindsB, rkF_0 _ _ _ _ e3, rbitsZ, bitsZ, fitB, rmidB, e1, risingB, knownB]
      · have e1 : x.size = 0 := hx (by simpa using q2)
        have e2 : l = [] := List.length_eq_zero_iff.1 (by simpa using q5)
        have e3 : flen c = 0 := by simpa using q6
        subst e2
        rw [Bool.eq_iff_iff]
        simp [kindB, rfrontB, hbb, rkindsB, rkF_0 _ _ _ _ e3, rbitsZ, bitsZ, fitB, rmidB, e1, risingB, knownB]
      · have e1 : x.size = 0 := hx (by simpa using q2)
        have e2 : l = [] := List.length_eq_zero_iff.1 (by simpa using q5)
        have e3 : flen c = 0 := by simpa using q6
        subst e2
        rw [Bool.eq_iff_iff]
        simp [kindB, rfrontB, hbb, rkindsB, rkF_0 _ _ _ _ e3, rbitsZ, bitsZ, fitB, rmidB, e1, risingB, knownB]
      · have e1 : x.size = 0 := hx (by simpa using q2)
        have e2 : l = [] := List.length_eq_zero_iff.1 (by simpa using q5)
        have e3 : flen c = 0 := by simpa using q6
        subst e2
        rw [Bool.eq_iff_iff]
        simp [kindB, rfrontB, hbb, rkindsB, rkF_0 _ _ _ _ e3, rbitsZ, bitsZ, fitB, rmidB, e1, risingB, knownB]
      · have e1 : x.size = 0 := hx (by simpa using q2)
        have e2 : l = [] := List.length_eq_zero_iff.1 (by simpa using q5)
        have e3 : flen c = 0 := by simpa using q6
        subst e2
        rw [Bool.eq_iff_iff]
        simp [kindB, rfrontB, hbb, rkindsB, rkF_0 _ _ _ _ e3, rbitsZ, bitsZ, fitB, rmidB, e1, risingB, knownB]
      · have e2 : l = [] := List.length_eq_zero_iff.1 (by simpa using q5)
        have e3 : flen c = 0 := by simpa using q6
        subst e2
        rw [Bool.eq_iff_iff]
        simp [kindB, rfrontB, hbb, rkindsB, rkF_0 _ _ _ _ e3, rbitsZ, bitsZ, fitB, rmidB, risingB, knownB]
      · have e1 : x.size = 0 := hx (by simpa using q2)
        have e2 : l = [] := List.length_eq_zero_iff.1 (by simpa using q5)
        subst e2
        have k9 : knownB 9 = true := by decide
        rw [Bool.eq_iff_iff]
        simp [kindB, rfrontB, hbb, rkindsB, rkF_9, rbitsZ, bitsZ, fitB, rmidB, e1, risingB, k9]
        exact ⟨fun h => ⟨⟨h.2.1, h.1⟩, h.2.2⟩, fun h => ⟨h.1.2, h.1.1, h.2⟩⟩
      · have e1 : x.size = 0 := hx (by simpa using q2)
        have e2 : l = [] := List.length_eq_zero_iff.1 (by simpa using q5)
        subst e2
        have k11 : knownB 11 = true := by decide
        rw [Bool.eq_iff_iff]
        by_cases h0 : flen c = 0
        · simp [kindB, mapB, rfrontB, hbb, rkindsB, rkF_11, rbitsZ, bitsZ, fitB, rmidB, e1, risingB, k11, h0]
        · simp [kindB, mapB, rfrontB, hbb, rkindsB, rkF_11, rbitsZ, bitsZ, fitB, rmidB, e1, risingB, k11, h0]
          exact ⟨fun h => ⟨⟨⟨⟨h.2.1.2, h.2.1.1⟩, h.1.1⟩, h.1.2⟩, h.2.2⟩, fun h => ⟨⟨h.1.1.2, h.1.2⟩, ⟨h.1.1.1.2, h.1.1.1.1⟩, h.2⟩⟩
      · have e1 : x.size = 0 := hx (by simpa using q2)
        rw [Bool.eq_iff_iff]
        have k12 : knownB 12 = true := by decide
        simp [kindB, rfrontB, hbb, rkindsB, rkF_12, rbitsZ, bitsZ, fitB, rmidB, e1, risingB, k12]
        exact fun _ => ⟨fun h => h.symm, fun h => h.symm⟩

theorem may_eq (p : Pay) (c : Fo) : ∀ d : Int, 0 ≤ d → rmayV p c d = mayV p c d := by
  refine every_value (C := fun p c => ∀ d : Int, 0 ≤ d → rmayV p c d = mayV p c d) (fun p c ih => ?_) p c
  intro d hd
  have hF : ∀ (f : Fo) (e : Int), 0 ≤ e → (∀ x ∈ elems f, ∀ d : Int, 0 ≤ d → rmayV x.1 x.2 d = mayV x.1 x.2 d) → rmayF f e = mayF f e := by
    intro f
    induction f with
    | nil => intros; rfl
    | node b o q g r _ ihr =>
      intro e he hx
      rw [rmayF_node, mayF_node, hx (q, g) (by simp [elems]) e he, ihr e he (fun x h => hx x (by simp [elems, h]))]
  unfold rmayV mayV
  rw [order_eq]
  cases hfr : rfrontB p c
  · simp
  cases hmid : rmidB p c
  · simp
  cases hri : risingB p.ids 0
  · simp
  have hk : knownB p.kind = true := by simp only [rfrontB, Bool.and_eq_true] at hfr; exact hfr.1.1.1.1
  have hbr : rbareB p c = true := by simp only [rfrontB, Bool.and_eq_true] at hfr; exact hfr.1.1.1.2
  have hkk := hk
  rw [known_true] at hkk
  cases hn : nestsB p.kind
  · have h9 : hb9 p.kind = false := by
      have : ¬ (p.kind = 9 ∨ p.kind = 11 ∨ p.kind = 12) := by rw [← nests_true, hn]; simp
      simp [hb9]; omega
    have hc : flen c = 0 := by
      have h1 := bare_kinds hk hbr
      have : ¬ (p.kind = 9 ∨ p.kind = 11 ∨ p.kind = 12) := by rw [← nests_true, hn]; simp
      omega
    cases c with
    | nil => simp [rm, hn, h9, hd, rmayF, mayF]
    | node _ _ _ _ r => simp [flen] at hc
  · have h9 : hb9 p.kind = true := by
      have : p.kind = 9 ∨ p.kind = 11 ∨ p.kind = 12 := by rw [← nests_true]; exact hn
      simp [hb9]; omega
    have hrm : rm p d = d - 1 := by simp [rm, hn]
    rw [hrm]
    by_cases h0 : d ≤ 0
    · have h1 : ¬ 0 ≤ d - 1 := by omega
      simp [h9, h0, h1]
      intro h; omega
    · have h1 : 0 ≤ d - 1 := by omega
      rw [hF c (d - 1) h1 (fun x hx => ih x hx)]
      simp [h9, h0, h1]
      intro h; omega
end Go.Proofs.Ytikoddlidhefpaa
