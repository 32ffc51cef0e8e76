/-
  What is parsed is laid in the bytes that were taken.
-/
import Derived.Test.YtikoddlidhefpaaBackB
namespace Go.Proofs.Ytikoddlidhefpaa
set_option linter.unusedVariables false
open Go.ChangeShapes Go.WideShapes Go.ChangeAt Go.RowKit Go.Deep

theorem rNumF_again {least most : Nat} : ∀ (g m s : Nat) (bs : List Nat) (n : Nat) (rest : List Nat), (∀ b ∈ bs, b < 256) → rNumF least most (g + 1) m s bs = .ok (n, rest) → ∃ k, n = m + k * 2 ^ s ∧ bs = numF g k ++ rest ∧ (0 < s → 0 < k)
  | g, m, s, [], n, rest, _, h => by simp [rNumF] at h
  | g, m, s, c :: r, n, rest, h8, h => by
    have hc : c < 256 := h8 c (List.mem_cons_self ..)
    unfold rNumF at h
    split at h
    · cases h
    · split at h
      · rename_i h128
        split at h
        · cases h
        · cases g with
          | zero =>
            cases r with
            | nil => simp [rNumF] at h
            | cons d l => simp [rNumF] at h
          | succ g =>
            obtain ⟨k, e1, e2, e3⟩ := rNumF_again g _ _ r n rest (fun b hb => h8 b (List.mem_cons_of_mem _ hb)) h
            have hk := e3 (by omega)
            refine ⟨c % 128 + 128 * k, ?_, ?_, fun _ => by omega⟩
            · rw [e1, Nat.pow_add]
              have h7 : (2 : Nat) ^ 7 = 128 := by decide
              rw [h7, Nat.add_mul, ← Nat.add_assoc, Nat.mul_comm (2 ^ s) 128, ← Nat.mul_assoc, Nat.mul_comm k 128]
            · have a1 : ¬ (c % 128 + 128 * k < 128) := by omega
              have a2 : (c % 128 + 128 * k) % 128 + 128 = c := by omega
              have a3 : (c % 128 + 128 * k) / 128 = k := by omega
              unfold numF
              rw [if_neg a1, a2, a3, e2]
              rfl
      · rename_i h128
        split at h
        · cases h
        · rename_i h0
          cases h
          have hm : c % 128 = c := by omega
          refine ⟨c, by rw [hm], ?_, fun hs => by omega⟩
          cases g with
          | zero => rfl
          | succ g => unfold numF; rw [if_pos (by omega)]; rfl
theorem rNum_again {least most : Nat} {bs : List Nat} {n : Nat} {rest : List Nat} (h8 : ∀ b ∈ bs, b < 256) (h : rNum least most bs = .ok (n, rest)) : bs = numB n ++ rest := by
  obtain ⟨k, e1, e2, _⟩ := rNumF_again 9 0 0 bs n rest h8 h
  have : k = n := by rw [e1]; simp
  rw [← this]
  exact e2
theorem b8_right {u r : List Nat} (h : ∀ b ∈ u ++ r, b < 256) : ∀ b ∈ r, b < 256 := fun b hb => h b (List.mem_append_right _ hb)
def AgainAt (r : Nat) : Prop := ∀ (k : Int) (bs : List Nat) (p : Pay) (c : Fo) (rest : List Nat), wayOk k (r : Int) = true → (∀ b ∈ bs, b < 256) → rVal r k bs = .ok ((p, c), rest) → p.kind = k ∧ mayV p c (r : Int) = true ∧ bs = valB p c ++ rest

theorem bare_scal (k n : Int) (h8 : ¬ k = 8) (h9 : ¬ k = 9) (h11 : ¬ k = 11) (h12 : ¬ k = 12) : bareB (scal k n) .nil = true := by
  have e1 : clrP (scal k n) = zeroP := by
    simp [clrP, scal, zeroP, h8, h9, h11, h12]
  have e2 : clrF (scal k n) .nil = .nil := by
    unfold clrF
    split <;> rfl
  unfold bareB
  rw [e1, e2, sameP_refl]
  rfl
theorem may_leaf {p : Pay} {r : Int} (hn : nestsB p.kind = false) (h0 : 0 ≤ r) (hb : bareB p .nil = true) (hk : kindB p .nil = true) : mayV p .nil r = true := by
  unfold mayV inOrderB
  have e : rm p r = r := by unfold rm; rw [hn]; rfl
  rw [e, hb, hk]
  simp [mayF, h0]
theorem txt_map (l : List Nat) (h : ∀ b ∈ l, b < 256) : (txt l).data.toList.map UInt8.toNat = l := by
  simp only [txt, strOfNums, List.map_map]
  have : ∀ l : List Nat, (∀ b ∈ l, b < 256) → List.map (UInt8.toNat ∘ (fun n : Int => UInt8.ofNat n.toNat) ∘ fun n : Nat => (n : Int)) l = l := by
    intro l
    induction l with
    | nil => intro _; rfl
    | cons a l ih =>
      intro h
      rw [List.map_cons, ih (fun b hb => h b (List.mem_cons_of_mem _ hb))]
      have ha : a < 256 := h a (List.mem_cons_self ..)
      simp [UInt8.toNat_ofNat']
      omega
  simpa using this l h
theorem leaf_again (k : Int) (bs : List Nat) (p : Pay) (c : Fo) (rest : List Nat) (r : Int) (h0 : 0 ≤ r) (hk : knownB k = true) (h9 : ¬ k = 9) (h11 : ¬ k = 11) (h12 : ¬ k = 12) (h8 : ∀ b ∈ bs, b < 256) (h : rLeaf k bs = .ok ((p, c), rest)) : p.kind = k ∧ mayV p c r = true ∧ bs = valB p c ++ rest := by
  rw [known_true] at hk
  unfold rLeaf at h
  by_cases k1 : k = 1
  · subst k1
    rw [if_pos rfl] at h
    cases bs with
    | nil => cases h
    | cons b l =>
      simp only [rTruth] at h
      split at h
      · rename_i e; subst e; cases h
        exact ⟨rfl, may_leaf rfl h0 (bare_scal 1 1 (by omega) (by omega) (by omega) (by omega)) rfl, rfl⟩
      · split at h
        · rename_i e; subst e; cases h
          exact ⟨rfl, may_leaf rfl h0 (bare_scal 1 0 (by omega) (by omega) (by omega) (by omega)) rfl, rfl⟩
        · cases h
  rw [if_neg k1] at h
  by_cases k3 : k = 3
  · subst k3
    rw [if_pos rfl] at h
    cases bs with
    | nil => cases h
    | cons b l =>
      have hb : b < 256 := h8 b (List.mem_cons_self ..)
      obtain ⟨n, hn⟩ : ∃ n, (if b < 128 then (b : Int) else (b : Int) - 256) = n := ⟨_, rfl⟩
      have hs : rSmall (b :: l) = .ok ((scal 3 n, .nil), l) := by rw [← hn]; rfl
      rw [hs] at h
      cases h
      have hn1 : -128 ≤ n ∧ n ≤ 127 ∧ (n % 256).toNat = b := by rw [← hn]; split <;> omega
      refine ⟨rfl, may_leaf rfl h0 (bare_scal 3 n (by omega) (by omega) (by omega) (by omega)) ?_, ?_⟩
      · show fitB n 8 = true
        simp [fitB]; omega
      · have hv : valB (scal 3 n) .nil = [(n % 256).toNat] := by simp [valB, preB, scal]
        rw [hv, hn1.2.2]
        rfl
  rw [if_neg k3] at h
  have sig : ∀ (most : Nat), (k = 4 ∨ k = 5 ∨ k = 6) → (∀ n : Nat, n ≤ most → fitB (unzig n) (bitsZ k) = true) → rSigned k most bs = .ok ((p, c), rest) → p.kind = k ∧ mayV p c r = true ∧ bs = valB p c ++ rest := by
    intro most h456 hf hs
    unfold rSigned at hs
    cases e : rNum 0 most bs with
    | error s => rw [e] at hs; cases hs
    | ok v =>
      obtain ⟨n, q⟩ := v
      rw [e] at hs
      cases hs
      have hle := rNum_le e
      refine ⟨rfl, may_leaf ?_ h0 (bare_scal k _ (by omega) (by omega) (by omega) (by omega)) ?_, ?_⟩
      · show nestsB k = false
        rcases h456 with rfl | rfl | rfl <;> rfl
      · have e1 : kindB (scal k (unzig n)) .nil = fitB (unzig n) (bitsZ k) := by
          have h37 : 3 ≤ k ∧ k ≤ 7 := by omega
          simp [kindB, scal, k1, h37]
        rw [e1]
        exact hf n hle
      · have hv : valB (scal k (unzig n)) .nil = numB (zig (unzig n)) := by
          rcases h456 with rfl | rfl | rfl <;> simp [valB, preB, scal]
        rw [hv, zig_unzig]
        exact rNum_again h8 e
  by_cases k4 : k = 4
  · subst k4
    rw [if_pos rfl] at h
    exact sig 65535 (.inl rfl) (fun n hn => by simp [fitB, bitsZ, unzig]; split <;> omega) h
  rw [if_neg k4] at h
  by_cases k5 : k = 5
  · subst k5
    rw [if_pos rfl] at h
    exact sig 4294967295 (.inr (.inl rfl)) (fun n hn => by simp [fitB, bitsZ, unzig]; split <;> omega) h
  rw [if_neg k5] at h
  by_cases k6 : k = 6
  · subst k6
    rw [if_pos rfl] at h
    exact sig 18446744073709551615 (.inr (.inr rfl)) (fun n hn => by simp [fitB, bitsZ]) h
  rw [if_neg k6] at h
  by_cases k7 : k = 7
  · subst k7
    rw [if_pos rfl] at h
    unfold rDouble at h
    have key : ∀ (bs : List Nat) (N : Nat) (rest : List Nat), (∀ b ∈ bs, b < 256) → rDblF 8 0 bs = .ok (N, rest) → bs = leB 8 N ++ rest ∧ N < 18446744073709551616 := by
      intro bs N rest h8 h
      match bs, h8, h with
      | b0 :: b1 :: b2 :: b3 :: b4 :: b5 :: b6 :: b7 :: l, h8, h =>
        simp only [List.mem_cons, forall_eq_or_imp] at h8
        obtain ⟨g0, g1, g2, g3, g4, g5, g6, g7, _⟩ := h8
        simp only [rDblF, Except.ok.injEq, Prod.mk.injEq] at h
        obtain ⟨hN, rfl⟩ := h
        subst hN
        refine ⟨?_, by omega⟩
        simp only [leB, List.cons_append, List.nil_append, List.cons.injEq, and_true]
        refine ⟨?_, ?_, ?_, ?_, ?_, ?_, ?_, ?_⟩ <;> omega
      | [], _, h => simp [rDblF] at h
      | [_], _, h => simp [rDblF] at h
      | [_, _], _, h => simp [rDblF] at h
      | [_, _, _], _, h => simp [rDblF] at h
      | [_, _, _, _], _, h => simp [rDblF] at h
      | [_, _, _, _, _], _, h => simp [rDblF] at h
      | [_, _, _, _, _, _], _, h => simp [rDblF] at h
      | [_, _, _, _, _, _, _], _, h => simp [rDblF] at h
    cases e : rDblF 8 0 bs with
    | error s => rw [e] at h; cases h
    | ok v =>
      obtain ⟨N, q⟩ := v
      rw [e] at h
      cases h
      obtain ⟨e1, e2⟩ := key bs N rest h8 e
      refine ⟨rfl, may_leaf rfl h0 (bare_scal 7 _ (by omega) (by omega) (by omega) (by omega)) (by simp [kindB, scal, fitB, bitsZ]), ?_⟩
      have hv : valB (scal 7 (wrap64 (N : Int))) .nil = leB 8 (wrap64 (N : Int) % 18446744073709551616).toNat := by simp [valB, preB, scal]
      have hw : (wrap64 (N : Int) % 18446744073709551616).toNat = N := by unfold wrap64; omega
      rw [hv, hw]
      exact e1
  rw [if_neg k7] at h
  have k8 : k = 8 := by omega
  subst k8
  unfold rTextV at h
  cases e : rNum 0 1048576 bs with
  | error s => rw [e] at h; cases h
  | ok v =>
    obtain ⟨n, q⟩ := v
    rw [e] at h
    dsimp only at h
    have hq := rNum_again h8 e
    have hle := rNum_le e
    unfold rText at h
    by_cases hl : q.length < n
    · rw [if_pos hl] at h; cases h
    · rw [if_neg hl] at h
      cases h
      have hq8 : ∀ b ∈ q, b < 256 := b8_right (by rw [← hq]; exact h8)
      have ht : (txt (q.take n)).size = n := by rw [txt_size, List.length_take]; omega
      refine ⟨rfl, may_leaf rfl h0 ?_ ?_, ?_⟩
      · simp [bareB, clrP, clrF, sameP, zeroP, sameF]
      · show decide ((txt (q.take n)).size ≤ 1048576) = true
        rw [ht]; simpa using hle
      · have hv : valB ⟨8, 0, 0, 0, txt (q.take n), []⟩ .nil = numB (txt (q.take n)).size ++ (txt (q.take n)).data.toList.map UInt8.toNat := by simp [valB, preB]
        rw [hv, ht, txt_map _ (fun b hb => hq8 b (List.mem_of_mem_take hb)), List.append_assoc, List.take_append_drop]
        exact hq
end Go.Proofs.Ytikoddlidhefpaa

/-
  What is parsed is laid in the bytes that were taken: what holds others.
-/
namespace Go.Proofs.Ytikoddlidhefpaa
set_option linter.unusedVariables false
open Go.ChangeShapes Go.WideShapes Go.ChangeAt Go.RowKit Go.Deep

theorem way_known {k r : Int} (h : wayOk k r = true) : knownB k = true := by
  unfold wayOk at h
  rw [Bool.and_eq_true] at h
  exact h.1
theorem rounds_again {r : Nat} (ih : AgainAt r) (k : Int) (hw : wayOk k (r : Int) = true) : ∀ (n i : Nat) (f : Fo) (bs : List Nat) (f' : Fo) (rest : List Nat), (∀ b ∈ bs, b < 256) → rRounds [rVal r k] n f bs = .ok (f', rest) →
    ∃ g, f' = fcat f g ∧ flen g = n ∧ kindsBy [k] i g = true ∧ mayF g (r : Int) = true ∧ bs = encF g false [] 0 ++ rest
  | 0, i, f, bs, f', rest, _, h => by
    cases h
    exact ⟨.nil, (fcat_nil _).symm, rfl, rfl, rfl, rfl⟩
  | n + 1, i, f, bs, f', rest, h8, h => by
    simp only [rRounds, rEach] at h
    cases e : rVal r k bs with
    | error s => rw [e] at h; cases h
    | ok v =>
      obtain ⟨⟨p, c⟩, q⟩ := v
      rw [e] at h
      obtain ⟨h1, h2, h3⟩ := ih k bs p c q hw h8 e
      obtain ⟨g, g1, g2, g3, g4, g5⟩ := rounds_again ih k hw n (i + 1) (fsnoc f p c) q f' rest (b8_right (by rw [← h3]; exact h8)) h
      refine ⟨.node 0 0 p c g, by rw [g1, fcat_snoc], by simp [flen, g2], ?_, by rw [mayF_node, h2, g4]; rfl, ?_⟩
      · simp [kindsBy, h1, Nat.mod_one, g3]
      · rw [h3, g5, encF_cat, List.append_assoc]
theorem pairs_again {r : Nat} (ih : AgainAt r) (y k : Int) (hy : wayOk y (r : Int) = true) (hw : wayOk k (r : Int) = true) : ∀ (n i : Nat) (f : Fo) (bs : List Nat) (f' : Fo) (rest : List Nat), (∀ b ∈ bs, b < 256) → rRounds [rVal r y, rVal r k] n f bs = .ok (f', rest) →
    ∃ g, f' = fcat f g ∧ flen g = 2 * n ∧ kindsBy [y, k] (2 * i) g = true ∧ mayF g (r : Int) = true ∧ bs = encF g false [] 0 ++ rest
  | 0, i, f, bs, f', rest, _, h => by
    cases h
    exact ⟨.nil, (fcat_nil _).symm, rfl, rfl, rfl, rfl⟩
  | n + 1, i, f, bs, f', rest, h8, h => by
    simp only [rRounds, rEach] at h
    cases e : rVal r y bs with
    | error s => rw [e] at h; cases h
    | ok v =>
      obtain ⟨⟨p, c⟩, q⟩ := v
      rw [e] at h
      dsimp only at h
      obtain ⟨h1, h2, h3⟩ := ih y bs p c q hy h8 e
      have h8q : ∀ b ∈ q, b < 256 := b8_right (by rw [← h3]; exact h8)
      cases e' : rVal r k q with
      | error s => rw [e'] at h; cases h
      | ok v =>
        obtain ⟨⟨p', c'⟩, q'⟩ := v
        rw [e'] at h
        dsimp only at h
        obtain ⟨j1, j2, j3⟩ := ih k q p' c' q' hw h8q e'
        obtain ⟨g, g1, g2, g3, g4, g5⟩ := pairs_again ih y k hy hw n (i + 1) (fsnoc (fsnoc f p c) p' c') q' f' rest (b8_right (by rw [← j3]; exact h8q)) h
        have e0 : (2 * i) % 2 = 0 := by omega
        have e1 : (2 * i + 1) % 2 = 1 := by omega
        refine ⟨.node 0 0 p c (.node 0 0 p' c' g), by rw [g1, fcat_snoc, fcat_snoc], by simp [flen, g2]; omega, ?_, by rw [mayF_node, mayF_node, h2, j2, g4]; rfl, ?_⟩
        · have g3' : kindsBy [y, k] (2 * i + 1 + 1) g = true := by rw [show 2 * i + 1 + 1 = 2 * (i + 1) by omega]; exact g3
          simp [kindsBy, h1, j1, e0, e1, g3']
        · rw [h3, j3, g5, encF_cat, encF_cat, List.append_assoc, List.append_assoc]
theorem may_of {p : Pay} {c : Fo} {r : Nat} (hn : nestsB p.kind = true) (hb : bareB p c = true) (hk : kindB p c = true) (hf : mayF c (r : Int) = true) : mayV p c ((r + 1 : Nat) : Int) = true := by
  unfold mayV inOrderB
  have e : rm p ((r + 1 : Nat) : Int) = (r : Int) := by unfold rm; rw [if_pos hn]; omega
  rw [e, hb, hk, hf]
  simp
theorem bare_9 (k : Int) (c : Fo) : bareB ⟨9, 0, k, 0, noText, []⟩ c = true := by simp [bareB, clrP, clrF, sameP, zeroP, sameF, noText]
theorem bare_11 (y k : Int) (c : Fo) : bareB ⟨11, y, k, 0, noText, []⟩ c = true := by simp [bareB, clrP, clrF, sameP, zeroP, sameF, noText]
theorem bare_12 (l : List Int) (c : Fo) : bareB ⟨12, 0, 0, 0, noText, l⟩ c = true := by simp [bareB, clrP, clrF, sameP, zeroP, sameF, noText]
theorem list_again {r : Nat} (ih : AgainAt r) (bs : List Nat) (p : Pay) (c : Fo) (rest : List Nat) (h8 : ∀ b ∈ bs, b < 256) (h : rList r (rVal r) bs = .ok ((p, c), rest)) : p.kind = 9 ∧ mayV p c ((r + 1 : Nat) : Int) = true ∧ bs = valB p c ++ rest := by
  cases bs with
  | nil => cases h
  | cons b q =>
    have hb : b < 256 := h8 b (List.mem_cons_self ..)
    have hq8 : ∀ x ∈ q, x < 256 := fun x hx => h8 x (List.mem_cons_of_mem _ hx)
    unfold rList at h
    rw [rHalves_cons] at h
    dsimp only at h
    have hk16 : b % 16 < 16 := by omega
    have kt : (((b % 16 : Nat) : Int)).toNat = b % 16 := by omega
    have hv : ∀ g : Fo, valB ⟨9, 0, ((b % 16 : Nat) : Int), 0, noText, []⟩ g = (if flen g < 15 then [16 * flen g + b % 16] else [16 * 15 + b % 16] ++ numB (flen g)) ++ encF g false [] 0 := by
      intro g
      show (if flen g < 15 then [16 * flen g + (((b % 16 : Nat) : Int)).toNat] else [16 * 15 + (((b % 16 : Nat) : Int)).toNat] ++ numB (flen g)) ++ encF g false [] 0 = _
      rw [kt]
    have hkind : ∀ g : Fo, flen g ≤ 65536 → knownB ((b % 16 : Nat) : Int) = true → kindsBy [((b % 16 : Nat) : Int)] 0 g = true → kindB ⟨9, 0, ((b % 16 : Nat) : Int), 0, noText, []⟩ g = true := by
      intro g g1 g2 g3
      show (decide (flen g ≤ 65536) && ([((b % 16 : Nat) : Int)].all knownB && kindsBy [((b % 16 : Nat) : Int)] 0 g)) = true
      rw [g3, List.all_cons, g2]
      simp [g1]
    by_cases h0 : b / 16 = 0 ∧ knownB ((b % 16 : Nat) : Int) = true
    · rw [if_pos h0] at h
      cases h
      refine ⟨rfl, may_of rfl (bare_9 _ _) (hkind .nil (by simp [flen]) h0.2 rfl) rfl, ?_⟩
      rw [hv]
      have : 16 * 0 + b % 16 = b := by omega
      simp [flen, encF]
      omega
    rw [if_neg h0] at h
    cases hw : wayOk ((b % 16 : Nat) : Int) (r : Int)
    · rw [if_pos hw] at h; cases h
    rw [if_neg (by rw [hw]; decide)] at h
    have hkn := way_known hw
    have of : ∀ (m : Nat) (bs' : List Nat), m ≤ 65536 → (∀ x ∈ bs', x < 256) → rListOf (rVal r ((b % 16 : Nat) : Int)) (b % 16) m bs' = .ok ((p, c), rest) → p = ⟨9, 0, ((b % 16 : Nat) : Int), 0, noText, []⟩ ∧ flen c = m ∧ mayV p c ((r + 1 : Nat) : Int) = true ∧ bs' = encF c false [] 0 ++ rest := by
      intro m bs' hm h8' h'
      unfold rListOf at h'
      cases e : rRounds [rVal r ((b % 16 : Nat) : Int)] m .nil bs' with
      | error s => rw [e] at h'; cases h'
      | ok v =>
        obtain ⟨f', t⟩ := v
        rw [e] at h'
        cases h'
        obtain ⟨g, g1, g2, g3, g4, g5⟩ := rounds_again ih _ hw m 0 .nil bs' _ _ h8' e
        have g1' : _ = g := g1
        rw [g1']
        exact ⟨rfl, g2, may_of rfl (bare_9 _ _) (hkind _ (by show flen g ≤ 65536; omega) hkn g3) g4, g5⟩
    by_cases h15 : b / 16 = 15
    · rw [if_pos h15] at h
      cases e : rNum 15 65536 q with
      | error s => rw [e] at h; cases h
      | ok v =>
        obtain ⟨m, t⟩ := v
        rw [e] at h
        have hq := rNum_again hq8 e
        have hle := rNum_le e
        have hge := rNum_ge e
        obtain ⟨p1, p2, p3, p4⟩ := of m t hle (b8_right (by rw [← hq]; exact hq8)) h
        refine ⟨by rw [p1], p3, ?_⟩
        rw [p1, hv, p2, if_neg (by omega), hq, p4]
        have : 16 * 15 + b % 16 = b := by omega
        rw [this]
        simp
    · rw [if_neg h15] at h
      obtain ⟨p1, p2, p3, p4⟩ := of (b / 16) q (by omega) hq8 h
      refine ⟨by rw [p1], p3, ?_⟩
      rw [p1, hv, p2, if_pos (by omega), p4]
      have : 16 * (b / 16) + b % 16 = b := by omega
      rw [this]
      simp
theorem dict_again {r : Nat} (ih : AgainAt r) (bs : List Nat) (p : Pay) (c : Fo) (rest : List Nat) (h8 : ∀ b ∈ bs, b < 256) (h : rDict r (rVal r) bs = .ok ((p, c), rest)) : p.kind = 11 ∧ mayV p c ((r + 1 : Nat) : Int) = true ∧ bs = valB p c ++ rest := by
  unfold rDict at h
  cases e : rNum 0 65536 bs with
  | error s => rw [e] at h; cases h
  | ok v =>
    obtain ⟨n, q⟩ := v
    rw [e] at h
    dsimp only at h
    have hq := rNum_again h8 e
    have hle := rNum_le e
    have hq8 : ∀ b ∈ q, b < 256 := b8_right (by rw [← hq]; exact h8)
    by_cases h0 : n = 0
    · rw [if_pos h0] at h
      cases h
      refine ⟨rfl, may_of rfl (bare_11 _ _ _) rfl rfl, ?_⟩
      rw [hq, h0]
      rfl
    rw [if_neg h0] at h
    cases q with
    | nil => cases h
    | cons b t =>
      have hb : b < 256 := hq8 b (List.mem_cons_self ..)
      have ht8 : ∀ x ∈ t, x < 256 := fun x hx => hq8 x (List.mem_cons_of_mem _ hx)
      rw [rHalves_cons] at h
      dsimp only at h
      cases hy : wayOk ((b / 16 : Nat) : Int) (r : Int)
      · rw [if_pos (.inl hy)] at h; cases h
      cases hw : wayOk ((b % 16 : Nat) : Int) (r : Int)
      · rw [if_pos (.inr hw)] at h; cases h
      rw [if_neg (by rw [hy, hw]; decide)] at h
      cases e' : rRounds [rVal r ((b / 16 : Nat) : Int), rVal r ((b % 16 : Nat) : Int)] n .nil t with
      | error s => rw [e'] at h; cases h
      | ok v =>
        obtain ⟨f', t'⟩ := v
        rw [e'] at h
        cases h
        obtain ⟨g, g1, g2, g3, g4, g5⟩ := pairs_again ih _ _ hy hw n 0 .nil t _ _ ht8 e'
        have g1' : _ = g := g1
        rw [g1']
        have g3' : kindsBy [((b / 16 : Nat) : Int), ((b % 16 : Nat) : Int)] 0 g = true := g3
        refine ⟨rfl, may_of rfl (bare_11 _ _ _) ?_ g4, ?_⟩
        · show mapB ⟨11, ((b / 16 : Nat) : Int), ((b % 16 : Nat) : Int), 0, noText, []⟩ g = true
          unfold mapB
          rw [if_neg (by omega), g3']
          rw [List.all_cons, List.all_cons, way_known hy, way_known hw]
          simp
          omega
        · have hv : valB ⟨11, ((b / 16 : Nat) : Int), ((b % 16 : Nat) : Int), 0, noText, []⟩ g = (numB (flen g / 2) ++ (if flen g = 0 then [] else [16 * (((b / 16 : Nat) : Int)).toNat + (((b % 16 : Nat) : Int)).toNat])) ++ encF g false [] 0 := rfl
          have k1 : (((b / 16 : Nat) : Int)).toNat = b / 16 := by omega
          have k2 : (((b % 16 : Nat) : Int)).toNat = b % 16 := by omega
          have k3 : 16 * (b / 16) + b % 16 = b := by omega
          show bs = valB ⟨11, ((b / 16 : Nat) : Int), ((b % 16 : Nat) : Int), 0, noText, []⟩ g ++ rest
          rw [hv, k1, k2, k3, g2, if_neg (by omega), show 2 * n / 2 = n by omega, hq, g5]
          simp
theorem fld_again {r : Nat} (ih : AgainAt r) (k : Nat) (hk : k < 16) (hw : (k = 1 ∨ k = 2) ∨ wayOk (k : Int) (r : Int) = true) (bs : List Nat) (p : Pay) (c : Fo) (rest : List Nat) (h8 : ∀ b ∈ bs, b < 256) (h : fldP (rVal r) k bs = .ok ((p, c), rest)) :
    (if p.kind = 1 then truthN p else p.kind.toNat) = k ∧ mayV p c (r : Int) = true ∧ bs = (if p.kind = 1 then [] else valB p c) ++ rest ∧ knownB p.kind = true := by
  unfold fldP at h
  by_cases hk12 : k = 1 ∨ k = 2
  · rw [if_pos hk12] at h
    rcases hk12 with rfl | rfl
    · cases h
      exact ⟨rfl, may_leaf rfl (by omega) (bare_scal 1 1 (by omega) (by omega) (by omega) (by omega)) rfl, rfl, rfl⟩
    · cases h
      exact ⟨rfl, may_leaf rfl (by omega) (bare_scal 1 0 (by omega) (by omega) (by omega) (by omega)) rfl, rfl, rfl⟩
  · rw [if_neg hk12] at h
    have hw' := hw.resolve_left hk12
    obtain ⟨h1, h2, h3⟩ := ih k bs p c rest hw' h8 h
    have h1' : ¬ p.kind = 1 := by omega
    rw [if_neg h1', if_neg h1']
    exact ⟨by omega, h2, h3, by rw [h1]; exact way_known hw'⟩
theorem id_again {last b : Nat} {r : List Nat} {i : Nat} {q : List Nat} (hb : b < 256) (h8 : ∀ x ∈ r, x < 256) (h : rID last (b / 16) r = .ok (i, q)) (p : Pay) (hp : (if p.kind = 1 then truthN p else p.kind.toNat) = b % 16) (hne : ¬ (b / 16 = 0 ∧ b % 16 = 0)) : b :: r = headB p (i : Int) (last : Int) ++ q := by
  unfold headB
  rw [hp]
  unfold rID at h
  by_cases h0 : b / 16 = 0
  · rw [if_pos h0] at h
    have hle := rFar_le h
    rw [if_neg (by omega)]
    unfold rFar at h
    rw [if_neg (by omega)] at h
    cases r with
    | nil => cases h
    | cons c l =>
      dsimp only at h
      by_cases hc : c % 2 = 1
      · rw [if_pos hc] at h; cases h
      · rw [if_neg hc] at h
        cases e : rNum (2 * (last + 16)) 65534 (c :: l) with
        | error s => rw [e] at h; cases h
        | ok v =>
          obtain ⟨n, t⟩ := v
          rw [e] at h
          cases h
          have hn := rNum_again h8 e
          obtain ⟨c', l', e1, e2⟩ := num_head n q
          rw [e1] at hn
          have hcc : c = c' := (List.cons.inj hn).1
          have hz : zig ((n / 2 : Nat) : Int) = n := by unfold zig zz; rw [if_pos (by omega)]; omega
          rw [hz, hn, ← e1]
          have hb' : 16 * 0 + b % 16 = b := by omega
          rw [hb']
          simp
  · rw [if_neg h0] at h
    split at h
    · cases h
    · cases h
      rw [if_pos (by omega)]
      have hb' : 16 * (((last + b / 16 : Nat) : Int) - (last : Int)).toNat + b % 16 = b := by omega
      rw [hb']
      rfl
theorem struct_again {r : Nat} (ih : AgainAt r) : ∀ (n : Nat) (ids0 : List Int) (f : Fo) (last : Nat) (bs : List Nat) (p : Pay) (c : Fo) (rest : List Nat), (∀ b ∈ bs, b < 256) → rStructF r (rVal r) n ids0 f last bs = .ok ((p, c), rest) →
    ∃ ids g, p = ⟨12, 0, 0, 0, noText, ids0 ++ ids⟩ ∧ c = fcat f g ∧ flen g = ids.length ∧ risingB ids last = true ∧ mayF g (r : Int) = true ∧ bs = encF g true ids last ++ rest
  | 0, _, _, _, _, _, _, _, _, h => by cases h
  | n + 1, ids0, f, last, [], p, c, rest, h8, h => by cases h
  | n + 1, ids0, f, last, b :: r1, p, c, rest, h8, h => by
    have hb : b < 256 := h8 b (List.mem_cons_self ..)
    have hr8 : ∀ x ∈ r1, x < 256 := fun x hx => h8 x (List.mem_cons_of_mem _ hx)
    by_cases h0 : b / 16 = 0 ∧ b % 16 = 0
    · rw [rStructF_succ, bnd_ok (rHalves_cons b r1)] at h
      dsimp only at h
      rw [if_pos h0] at h
      cases h
      refine ⟨[], .nil, by simp, (fcat_nil _).symm, rfl, rfl, rfl, ?_⟩
      have : b = 0 := by omega
      subst this
      rfl
    by_cases hw : (b % 16 = 1 ∨ b % 16 = 2) ∨ wayOk ((b % 16 : Nat) : Int) (r : Int) = true
    · rw [structF_field h0 hw] at h
      cases e1 : rID last (b / 16) r1 with
      | error s => rw [bnd_err e1] at h; cases h
      | ok v =>
        obtain ⟨i, q⟩ := v
        rw [bnd_ok e1] at h
        have hile := rID_le e1
        obtain ⟨u, hu, _⟩ := (good_id last (b / 16) r1).1 i q e1
        have hq8 : ∀ x ∈ q, x < 256 := b8_right (by rw [← hu]; exact hr8)
        cases e2 : fldP (rVal r) (b % 16) q with
        | error s => rw [bnd_err e2] at h; cases h
        | ok v =>
          obtain ⟨⟨p', c'⟩, t⟩ := v
          rw [bnd_ok e2] at h
          dsimp only at h
          obtain ⟨f1, f2, f3, f4⟩ := fld_again ih (b % 16) (by omega) hw q p' c' t hq8 e2
          have ht8 : ∀ x ∈ t, x < 256 := b8_right (by rw [← f3]; exact hq8)
          obtain ⟨ids, g, g1, g2, g3, g4, g5, g6⟩ := struct_again ih n _ _ i t p c rest ht8 h
          refine ⟨(i : Int) :: ids, .node 0 0 p' c' g, by rw [g1]; simp, by rw [g2, fcat_snoc], by simp [flen, g3], ?_, by rw [mayF_node, f2, g5]; rfl, ?_⟩
          · simp only [risingB, Bool.and_eq_true, decide_eq_true_eq]
            exact ⟨⟨by omega, by omega⟩, g4⟩
          · rw [encF_fld]
            simp only [List.headD_cons, List.tail_cons]
            rw [id_again hb hr8 e1 p' f1 h0, f3, g6]
            simp
    · exfalso
      rw [rStructF_succ, bnd_ok (rHalves_cons b r1)] at h
      dsimp only at h
      have hw2 : wayOk ((b % 16 : Nat) : Int) (r : Int) = false := by
        cases hh : wayOk ((b % 16 : Nat) : Int) (r : Int)
        · rfl
        · exact absurd (.inr hh) hw
      rw [if_neg h0, if_pos ⟨fun hx => hw (.inl hx), hw2⟩] at h
      cases h
theorem again_all : ∀ r : Nat, AgainAt r := by
  intro r
  induction r with
  | zero =>
    intro k bs p c rest hw h8 h
    have hkn := way_known hw
    unfold wayOk at hw
    rw [hkn] at hw
    have hn : nestsB k = false := by
      cases hh : nestsB k
      · rfl
      · rw [hh] at hw; simp at hw
    have n9 : ¬ (k = 9 ∨ k = 11 ∨ k = 12) := by rw [← nests_true, hn]; simp
    exact leaf_again k bs p c rest _ (by omega) hkn (by omega) (by omega) (by omega) h8 h
  | succ r ih =>
    intro k bs p c rest hw h8 h
    have hkn := way_known hw
    by_cases h9 : k = 9
    · subst h9; exact list_again ih bs p c rest h8 h
    by_cases h11 : k = 11
    · subst h11; exact dict_again ih bs p c rest h8 h
    by_cases h12 : k = 12
    · subst h12
      have h' : rStructF r (rVal r) (bs.length + 1) [] .nil 0 bs = .ok ((p, c), rest) := h
      obtain ⟨ids, g, g1, g2, g3, g4, g5, g6⟩ := struct_again ih _ [] .nil 0 bs p c rest h8 h'
      have g2' : c = g := g2
      rw [g2']
      have g1' : p = ⟨12, 0, 0, 0, noText, ids⟩ := by rw [g1]; rfl
      rw [g1']
      refine ⟨rfl, may_of rfl (bare_12 _ _) ?_ g5, g6⟩
      show (decide (flen g = ids.length) && risingB ids 0) = true
      rw [g3]
      simpa using g4
    · rw [rVal_leaf' (r + 1) k h9 h11 h12] at h
      exact leaf_again k bs p c rest _ (by omega) hkn h9 h11 h12 h8 h
end Go.Proofs.Ytikoddlidhefpaa
