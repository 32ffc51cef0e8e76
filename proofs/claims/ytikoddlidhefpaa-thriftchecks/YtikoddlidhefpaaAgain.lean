/-
  What is parsed is laid in the bytes that were taken.
-/
import Derived.Test.YtikoddlidhefpaaBackB
namespace Go.Proofs.Ytikoddlidhefpaa
set_option linter.unusedVariables false
open Go.ChangeShapes Go.WideShapes Go.ChangeAt Go.RowKit Go.Deep

theorem rNumF_again {least most : Nat} : ∀ (g m s : Nat) (bs : List Nat) (n : Nat) (rest : List Nat), (∀ b ∈ bs, b < 256) → rNumF least most (g + 1) m s bs = .ok (n, rest) → ∃ k, n = m + k * 2 ^ s ∧ bs = numF g k ++ rest ∧ (0 < s → 0 < k)
  | g, m, s, [], n, rest, _, h => by simp [rNumF] at h
  | g, m, s, c :: r, n, rest, h8, h => by
    have hc : c < 256 := h8 c (List.mem_cons_self ..)
    unfold rNumF at h
    split at h
    · cases h
    · split at h
      · rename_i h128
        split at h
        · cases h
        · cases g with
          | zero =>
            cases r with
            | nil => simp [rNumF] at h
            | cons d l => simp [rNumF] at h
          | succ g =>
            obtain ⟨k, e1, e2, e3⟩ := rNumF_again g _ _ r n rest (fun b hb => h8 b (List.mem_cons_of_mem _ hb)) h
            have hk := e3 (by omega)
            refine ⟨c % 128 + 128 * k, ?_, ?_, fun _ => by omega⟩
            · rw [e1, Nat.pow_add]
              have h7 : (2 : Nat) ^ 7 = 128 := by decide
              rw [h7, Nat.add_mul, ← Nat.add_assoc, Nat.mul_comm (2 ^ s) 128, ← Nat.mul_assoc, Nat.mul_comm k 128]
            · have a1 : ¬ (c % 128 + 128 * k < 128) := by omega
              have a2 : (c % 128 + 128 * k) % 128 + 128 = c := by omega
              have a3 : (c % 128 + 128 * k) / 128 = k := by omega
              unfold numF
              rw [if_neg a1, a2, a3, e2]
              rfl
      · rename_i h128
        split at h
        · cases h
        · rename_i h0
          cases h
          have hm : c % 128 = c := by omega
          refine ⟨c, by rw [hm], ?_, fun hs => by omega⟩
          cases g with
          | zero => rfl
          | succ g => unfold numF; rw [if_pos (by omega)]; rfl
theorem rNum_again {least most : Nat} {bs : List Nat} {n : Nat} {rest : List Nat} (h8 : ∀ b ∈ bs, b < 256) (h : rNum least most bs = .ok (n, rest)) : bs = numB n ++ rest := by
  obtain ⟨k, e1, e2, _⟩ := rNumF_again 9 0 0 bs n rest h8 h
  have : k = n := by rw [e1]; simp
  rw [← this]
  exact e2
theorem b8_right {u r : List Nat} (h : ∀ b ∈ u ++ r, b < 256) : ∀ b ∈ r, b < 256 := fun b hb => h b (List.mem_append_right _ hb)
def AgainAt (r : Nat) : Prop := ∀ (k : Int) (bs : List Nat) (p : Pay) (c : Fo) (rest : List Nat), wayOk k (r : Int) = true → (∀ b ∈ bs, b < 256) → rVal r k bs = .ok ((p, c), rest) → p.kind = k ∧ mayV p c (r : Int) = true ∧ bs = valB p c ++ rest

theorem bare_scal (k n : Int) (h8 : ¬ k = 8) (h9 : ¬ k = 9) (h11 : ¬ k = 11) (h12 : ¬ k = 12) : bareB (scal k n) .nil = true := by
  have e1 : clrP (scal k n) = zeroP := by
    simp [clrP, scal, zeroP, h8, h9, h11, h12]
  have e2 : clrF (scal k n) .nil = .nil := by
    unfold clrF
    split <;> rfl
  unfold bareB
  rw [e1, e2, sameP_refl]
  rfl
theorem may_leaf {p : Pay} {r : Int} (hn : nestsB p.kind = false) (h0 : 0 ≤ r) (hb : bareB p .nil = true) (hk : kindB p .nil = true) : mayV p .nil r = true := by
  unfold mayV inOrderB
  have e : rm p r = r := by unfold rm; rw [hn]; rfl
  rw [e, hb, hk]
  simp [mayF, h0]
theorem txt_map (l : List Nat) (h : ∀ b ∈ l, b < 256) : (txt l).data.toList.map UInt8.toNat = l := by
  simp only [txt, strOfNums, List.map_map]
  have : ∀ l : List Nat, (∀ b ∈ l, b < 256) → List.map (UInt8.toNat ∘ (fun n : Int => UInt8.ofNat n.toNat) ∘ fun n : Nat => (n : Int)) l = l := by
    intro l
    induction l with
    | nil => intro _; rfl
    | cons a l ih =>
      intro h
      rw [List.map_cons, ih (fun b hb => h b (List.mem_cons_of_mem _ hb))]
      have ha : a < 256 := h a (List.mem_cons_self ..)
      simp [UInt8.toNat_ofNat']
      omega
  simpa using this l h
theorem leaf_again (k : Int) (bs : List Nat) (p : Pay) (c : Fo) (rest : List Nat) (r : Int) (h0 : 0 ≤ r) (hk : knownB k = true) (h9 : ¬ k = 9) (h11 : ¬ k = 11) (h12 : ¬ k = 12) (h8 : ∀ b ∈ bs, b < 256) (h : rLeaf k bs = .ok ((p, c), rest)) : p.kind = k ∧ mayV p c r = true ∧ bs = valB p c ++ rest := by
  rw [known_true] at hk
  unfold rLeaf at h
  by_cases k1 : k = 1
  · subst k1
    rw [if_pos rfl] at h
    cases bs with
    | nil => cases h
    | cons b l =>
      simp only [rTruth] at h
      split at h
      · rename_i e; subst e; cases h
        exact ⟨rfl, may_leaf rfl h0 (bare_scal 1 1 (by omega) (by omega) (by omega) (by omega)) rfl, rfl⟩
      · split at h
        · rename_i e; subst e; cases h
          exact ⟨rfl, may_leaf rfl h0 (bare_scal 1 0 (by omega) (by omega) (by omega) (by omega)) rfl, rfl⟩
        · cases h
  rw [if_neg k1] at h
  by_cases k3 : k = 3
  · subst k3
    rw [if_pos rfl] at h
    cases bs with
    | nil => cases h
    | cons b l =>
      have hb : b < 256 := h8 b (List.mem_cons_self ..)
      obtain ⟨n, hn⟩ : ∃ n, (if b < 128 then (b : Int) else (b : Int) - 256) = n := ⟨_, rfl⟩
      have hs : rSmall (b :: l) = .ok ((scal 3 n, .nil), l) := by rw [← hn]; rfl
      rw [hs] at h
      cases h
      have hn1 : -128 ≤ n ∧ n ≤ 127 ∧ (n % 256).toNat = b := by rw [← hn]; split <;> omega
      refine ⟨rfl, may_leaf rfl h0 (bare_scal 3 n (by omega) (by omega) (by omega) (by omega)) ?_, ?_⟩
      · show fitB n 8 = true
        simp [fitB]; omega
      · have hv : valB (scal 3 n) .nil = [(n % 256).toNat] := by simp [valB, preB, scal]
        rw [hv, hn1.2.2]
        rfl
  rw [if_neg k3] at h
  have sig : ∀ (most : Nat), (k = 4 ∨ k = 5 ∨ k = 6) → (∀ n : Nat, n ≤ most → fitB (unzig n) (bitsZ k) = true) → rSigned k most bs = .ok ((p, c), rest) → p.kind = k ∧ mayV p c r = true ∧ bs = valB p c ++ rest := by
    intro most h456 hf hs
    unfold rSigned at hs
    cases e : rNum 0 most bs with
    | error s => rw [e] at hs; cases hs
    | ok v =>
      obtain ⟨n, q⟩ := v
      rw [e] at hs
      cases hs
      have hle := rNum_le e
      refine ⟨rfl, may_leaf ?_ h0 (bare_scal k _ (by omega) (by omega) (by omega) (by omega)) ?_, ?_⟩
      · show nestsB k = false
        rcases h456 with rfl | rfl | rfl <;> rfl
      · have e1 : kindB (scal k (unzig n)) .nil = fitB (unzig n) (bitsZ k) := by
          have h37 : 3 ≤ k ∧ k ≤ 7 := by omega
          simp [kindB, scal, k1, h37]
        rw [e1]
        exact hf n hle
      · have hv : valB (scal k (unzig n)) .nil = numB (zig (unzig n)) := by
          rcases h456 with rfl | rfl | rfl <;> simp [valB, preB, scal]
        rw [hv, zig_unzig]
        exact rNum_again h8 e
  by_cases k4 : k = 4
  · subst k4
    rw [if_pos rfl] at h
    exact sig 65535 (.inl rfl) (fun n hn => by simp [fitB, bitsZ, unzig]; split <;> omega) h
  rw [if_neg k4] at h
  by_cases k5 : k = 5
  · subst k5
    rw [if_pos rfl] at h
    exact sig 4294967295 (.inr (.inl rfl)) (fun n hn => by simp [fitB, bitsZ, unzig]; split <;> omega) h
  rw [if_neg k5] at h
  by_cases k6 : k = 6
  · subst k6
    rw [if_pos rfl] at h
    exact sig 18446744073709551615 (.inr (.inr rfl)) (fun n hn => by simp [fitB, bitsZ]) h
  rw [if_neg k6] at h
  by_cases k7 : k = 7
  · subst k7
    rw [if_pos rfl] at h
    unfold rDouble at h
    have key : ∀ (bs : List Nat) (N : Nat) (rest : List Nat), (∀ b ∈ bs, b < 256) → rDblF 8 0 bs = .ok (N, rest) → bs = leB 8 N ++ rest ∧ N < 18446744073709551616 := by
      intro bs N rest h8 h
      match bs, h8, h with
      | b0 :: b1 :: b2 :: b3 :: b4 :: b5 :: b6 :: b7 :: l, h8, h =>
        simp only [List.mem_cons, forall_eq_or_imp] at h8
        obtain ⟨g0, g1, g2, g3, g4, g5, g6, g7, _⟩ := h8
        simp only [rDblF, Except.ok.injEq, Prod.mk.injEq] at h
        obtain ⟨hN, rfl⟩ := h
        subst hN
        refine ⟨?_, by omega⟩
        simp only [leB, List.cons_append, List.nil_append, List.cons.injEq, and_true]
        refine ⟨?_, ?_, ?_, ?_, ?_, ?_, ?_, ?_⟩ <;> omega
      | [], _, h => simp [rDblF] at h
      | [_], _, h => simp [rDblF] at h
      | [_, _], _, h => simp [rDblF] at h
      | [_, _, _], _, h => simp [rDblF] at h
      | [_, _, _, _], _, h => simp [rDblF] at h
      | [_, _, _, _, _], _, h => simp [rDblF] at h
      | [_, _, _, _, _, _], _, h => simp [rDblF] at h
      | [_, _, _, _, _, _, _], _, h => simp [rDblF] at h
    cases e : rDblF 8 0 bs with
    | error s => rw [e] at h; cases h
    | ok v =>
      obtain ⟨N, q⟩ := v
      rw [e] at h
      cases h
      obtain ⟨e1, e2⟩ := key bs N rest h8 e
      refine ⟨rfl, may_leaf rfl h0 (bare_scal 7 _ (by omega) (by omega) (by omega) (by omega)) (by simp [kindB, scal, fitB, bitsZ]), ?_⟩
      have hv : valB (scal 7 (wrap64 (N : Int))) .nil = leB 8 (wrap64 (N : Int) % 18446744073709551616).toNat := by simp [valB, preB, scal]
      have hw : (wrap64 (N : Int) % 18446744073709551616).toNat = N := by unfold wrap64; omega
      rw [hv, hw]
      exact e1
  rw [if_neg k7] at h
  have k8 : k = 8 := by omega
  subst k8
  unfold rTextV at h
  cases e : rNum 0 1048576 bs with
  | error s => rw [e] at h; cases h
  | ok v =>
    obtain ⟨n, q⟩ := v
    rw [e] at h
    dsimp only at h
    have hq := rNum_again h8 e
    have hle := rNum_le e
    unfold rText at h
    by_cases hl : q.length < n
    · rw [if_pos hl] at h; cases h
    · rw [if_neg hl] at h
      cases h
      have hq8 : ∀ b ∈ q, b < 256 := b8_right (by rw [← hq]; exact h8)
      have ht : (txt (q.take n)).size = n := by rw [txt_size, List.length_take]; omega
      refine ⟨rfl, may_leaf rfl h0 ?_ ?_, ?_⟩
      · simp [bareB, clrP, clrF, sameP, zeroP, sameF]
      · show decide ((txt (q.take n)).size ≤ 1048576) = true
        rw [ht]; simpa using hle
      · have hv : valB ⟨8, 0, 0, 0, txt (q.take n), []⟩ .nil = numB (txt (q.take n)).size ++ (txt (q.take n)).data.toList.map UInt8.toNat := by simp [valB, preB]
        rw [hv, ht, txt_map _ (fun b hb => hq8 b (List.mem_of_mem_take hb)), List.append_assoc, List.take_append_drop]
        exact hq
end Go.Proofs.Ytikoddlidhefpaa
