/-
  What is written is read as it was: the mathematics.
-/
import Derived.Test.YtfocmlajeflenaaJ1
namespace Go.Proofs.Ytfocmlajeflenaa
set_option linter.unusedVariables false
set_option linter.unusedSimpArgs false
open Go.RowKit (wrap64)

theorem no_text {s : ByteArray} (h : s.size = 0) : s = { data := #[] } := by
  obtain ⟨a⟩ := s
  have : a.size = 0 := h
  rw [Array.size_eq_zero_iff.1 this]
theorem num_front {k : Int} (m : Nat) (N : Nat) (r : List Nat) (hN : N < 2 ^ (8 * m)) : pk 8 ((upk 8 m N ++ r).take m) = N := by
  rw [List.take_append_of_le_length (by rw [upk_len]; exact Nat.le_refl _), List.take_of_length_le (by rw [upk_len]; exact Nat.le_refl _)]
  exact pk_upk 8 m N hN
theorem front_db {k z : Int} {d : Dat} (h : ofB d.k d.n d.s.size k z = true) (h0 : k ≠ 0) (r : List Nat) : front k z (db d ++ r) = some d := by
  obtain ⟨e, hc, hf, h7⟩ := of_parts h
  have hk := (chk_parts hc).1
  obtain ⟨_, hn0, hn1, hl0, hl1⟩ := fine_parts hf
  obtain ⟨dk, dn, ds⟩ := d
  simp only at e hn0 hn1 hl0 hl1 h7
  subst e
  have e4 : (2 : Nat) ^ (8 * 4) = 4294967296 := by decide
  have e8 : (2 : Nat) ^ (8 * 8) = 18446744073709551616 := by decide
  rcases kn_cases hk with rfl | rfl | rfl | rfl | rfl | rfl | rfl
  · exact absurd rfl h0
  · have hs := no_text (s := ds) (by have h : bo 1 5 = 0 := by decide
                                     omega)
    simp [bo] at hn0 hn1
    subst hs
    have hfr : ∀ bs, front 1 z bs = if 4 ≤ bs.length then some (mkN 1 (pk 8 (bs.take 4))) else none := fun bs => rfl
    have hdb : db ⟨1, dn, { data := #[] }⟩ = upk 8 4 (dn % 4294967296).toNat := by simp [db]
    have hl : 4 ≤ (upk 8 4 (dn % 4294967296).toNat ++ r).length := by rw [List.length_append, upk_len]; omega
    rw [hdb, hfr, if_pos hl, num_front (k := 1) 4 _ r (by rw [e4]; omega)]
    unfold mkN
    simp only [if_true, Option.some.injEq, Dat.mk.injEq, true_and, and_true]
    split <;> omega
  · have hs := no_text (s := ds) (by have h : bo 2 5 = 0 := by decide
                                     omega)
    simp [bo] at hn0 hn1
    subst hs
    have hfr : ∀ bs, front 2 z bs = if 8 ≤ bs.length then some (mkN 2 (pk 8 (bs.take 8))) else none := fun bs => rfl
    have hdb : db ⟨2, dn, { data := #[] }⟩ = upk 8 8 (dn % 18446744073709551616).toNat := by simp [db]
    have hl : 8 ≤ (upk 8 8 (dn % 18446744073709551616).toNat ++ r).length := by rw [List.length_append, upk_len]; omega
    rw [hdb, hfr, if_pos hl, num_front (k := 2) 8 _ r (by rw [e8]; omega)]
    unfold mkN wrap64
    rw [if_neg (by decide)]
    simp only [Option.some.injEq, Dat.mk.injEq, true_and, and_true]
    omega
  · have hs := no_text (s := ds) (by have h : bo 4 5 = 0 := by decide
                                     omega)
    simp [bo] at hn0 hn1
    subst hs
    have hfr : ∀ bs, front 4 z bs = if 4 ≤ bs.length then some (mkN 4 (pk 8 (bs.take 4))) else none := fun bs => rfl
    have hdb : db ⟨4, dn, { data := #[] }⟩ = upk 8 4 (dn % 4294967296).toNat := by simp [db]
    have hl : 4 ≤ (upk 8 4 (dn % 4294967296).toNat ++ r).length := by rw [List.length_append, upk_len]; omega
    rw [hdb, hfr, if_pos hl, num_front (k := 4) 4 _ r (by rw [e4]; omega)]
    unfold mkN wrap64
    rw [if_neg (by decide)]
    simp only [Option.some.injEq, Dat.mk.injEq, true_and, and_true]
    omega
  · have hs := no_text (s := ds) (by have h : bo 5 5 = 0 := by decide
                                     omega)
    simp [bo] at hn0 hn1
    subst hs
    have hfr : ∀ bs, front 5 z bs = if 8 ≤ bs.length then some (mkN 5 (pk 8 (bs.take 8))) else none := fun bs => rfl
    have hdb : db ⟨5, dn, { data := #[] }⟩ = upk 8 8 (dn % 18446744073709551616).toNat := by simp [db]
    have hl : 8 ≤ (upk 8 8 (dn % 18446744073709551616).toNat ++ r).length := by rw [List.length_append, upk_len]; omega
    rw [hdb, hfr, if_pos hl, num_front (k := 5) 8 _ r (by rw [e8]; omega)]
    unfold mkN wrap64
    rw [if_neg (by decide)]
    simp only [Option.some.injEq, Dat.mk.injEq, true_and, and_true]
    omega
  · have hd : dn = 0 := by
      have h : bo 6 2 = 0 := by decide
      have h' : bo 6 3 = 0 := by decide
      omega
    have hsz : ds.size ≤ 1048576 := by
      have h : bo 6 5 = 1048576 := by decide
      omega
    subst hd
    have hfr : ∀ bs, front 6 z bs = if 4 ≤ bs.length ∧ pk 8 (bs.take 4) ≤ bs.length - 4 then some ⟨6, 0, txt ((bs.drop 4).take (pk 8 (bs.take 4)))⟩ else none := fun bs => rfl
    have hdb : db ⟨6, 0, ds⟩ = upk 8 4 ds.size ++ tb ds := by simp [db]
    have hp : pk 8 ((upk 8 4 ds.size ++ tb ds ++ r).take 4) = ds.size := by
      rw [List.append_assoc]
      exact num_front (k := 6) 4 _ _ (by rw [e4]; omega)
    have hd4 : (upk 8 4 ds.size ++ tb ds ++ r).drop 4 = tb ds ++ r := by
      rw [List.append_assoc, List.drop_append_of_le_length (by rw [upk_len]; exact Nat.le_refl _), List.drop_eq_nil_of_le (by rw [upk_len]; exact Nat.le_refl _)]
      rfl
    have hll : (upk 8 4 ds.size ++ tb ds ++ r).length = 4 + ds.size + r.length := by rw [List.length_append, List.length_append, upk_len, tb_len]
    rw [hdb, hfr, hp, hd4, hll, if_pos (by omega)]
    rw [List.take_append_of_le_length (by rw [tb_len]; exact Nat.le_refl _), List.take_of_length_le (by rw [tb_len]; exact Nat.le_refl _), txt_list]
  · have h7' := h7 rfl
    have hd : dn = 0 := by
      have h : bo 7 2 = 0 := by decide
      have h' : bo 7 3 = 0 := by decide
      omega
    subst hd
    have hz : z.toNat = ds.size := by omega
    have hfr : ∀ bs, front 7 z bs = if z.toNat ≤ bs.length then some ⟨7, 0, txt (bs.take z.toNat)⟩ else none := fun bs => rfl
    have hdb : db ⟨7, 0, ds⟩ = tb ds := by simp [db]
    rw [hdb, hfr, hz, if_pos (by rw [List.length_append, tb_len]; omega)]
    rw [List.take_append_of_le_length (by rw [tb_len]; exact Nat.le_refl _), List.take_of_length_le (by rw [tb_len]; exact Nat.le_refl _), txt_list]
/-- what was written is read as it was, with what is behind it -/
theorem rds_eb {k z : Int} (h0 : k ≠ 0) : ∀ (l : List Dat) (r : List Nat), wAll k z l = true → rds k z l.length (eb l ++ r) = some (l, r)
  | [], r, _ => rfl
  | d :: l, r, h => by
    have hd : ofB d.k d.n d.s.size k z = true := List.all_eq_true.1 h d (List.mem_cons_self ..)
    have hl : wAll k z l = true := List.all_eq_true.2 fun x hx => List.all_eq_true.1 h x (List.mem_cons_of_mem _ hx)
    have e : (eb (d :: l) ++ r).drop (dsz k z d) = eb l ++ r := by
      rw [eb, List.append_assoc, ← db_len hd h0]
      exact List.drop_left
    rw [List.length_cons, rds, show eb (d :: l) ++ r = db d ++ (eb l ++ r) from by rw [eb, List.append_assoc], front_db hd h0, ]
    rw [show db d ++ (eb l ++ r) = eb (d :: l) ++ r from by rw [eb, List.append_assoc]]
    simp only [e, rds_eb h0 l r hl]
end Go.Proofs.Ytfocmlajeflenaa

/-
  What is read is written as it was: the mathematics.
-/
namespace Go.Proofs.Ytfocmlajeflenaa
set_option linter.unusedVariables false
set_option linter.unusedSimpArgs false
open Go.RowKit (wrap64)

theorem take_back {rs : List Nat} (m : Nat) (hlt : ∀ x ∈ rs, x < 256) (hm : m ≤ rs.length) : upk 8 m (pk 8 (rs.take m)) = rs.take m := by
  have hl : (rs.take m).length = m := List.length_take_of_le hm
  have h := upk_pk 8 (rs.take m) (fun x hx => by have := hlt x (List.mem_of_mem_take hx); omega)
  rwa [hl] at h
theorem take_lt {rs : List Nat} (m : Nat) (hlt : ∀ x ∈ rs, x < 256) (hm : m ≤ rs.length) : pk 8 (rs.take m) < 2 ^ (8 * m) := by
  have h := pk_lt 8 (rs.take m) (fun x hx => by have := hlt x (List.mem_of_mem_take hx); omega)
  rwa [List.length_take_of_le hm] at h
set_option maxRecDepth 100000 in
theorem front_back {k z : Int} {rs : List Nat} {d : Dat} (hc : chkB k z = true) (h0 : k ≠ 0) (hl : rs.length ≤ 1048576) (hlt : ∀ x ∈ rs, x < 256) (h : front k z rs = some d) : ofB d.k d.n d.s.size k z = true ∧ db d = rs.take (dsz k z d) := by
  obtain ⟨hk, hz0, hz1⟩ := chk_parts hc
  have e4 : (2 : Nat) ^ (8 * 4) = 4294967296 := by decide
  have e8 : (2 : Nat) ^ (8 * 8) = 18446744073709551616 := by decide
  unfold front at h
  rcases kn_cases hk with rfl | rfl | rfl | rfl | rfl | rfl | rfl
  · exact absurd rfl h0
  · rw [if_pos (by decide)] at h
    split at h
    · rename_i h4
      cases h
      have ht := take_back 4 hlt h4
      have hN := take_lt 4 hlt h4
      rw [e4] at hN
      generalize pk 8 (rs.take 4) = N at *
      have hs : dsz 1 z (mkN 1 N) = 4 := by simp [dsz]
      rw [hs, ← ht]
      constructor
      · simp [ofB, hc, fineB, inB, bo, kn, mkN, ByteArray.size]
        split <;> omega
      · simp [db, mkN]
        congr 1
        split <;> omega
    · cases h
  · rw [if_neg (by decide), if_pos (by decide)] at h
    split at h
    · rename_i h4
      cases h
      have ht := take_back 8 hlt h4
      have hN := take_lt 8 hlt h4
      rw [e8] at hN
      generalize pk 8 (rs.take 8) = N at *
      have hs : dsz 2 z (mkN 2 N) = 8 := by simp [dsz]
      rw [hs, ← ht]
      constructor
      · simp [ofB, hc, fineB, inB, bo, kn, mkN, ByteArray.size, wrap64]
        omega
      · have hw : ∀ m : Int, m = 4294967296 ∨ m = 18446744073709551616 → (N : Int) < m → (wrap64 (N : Int) % m).toNat = N := fun m hm hlt => by
          unfold wrap64
          rcases hm with rfl | rfl <;> omega
        simp only [db, mkN]
        simp
        rw [hw _ (by first | exact .inl rfl | exact .inr rfl) (by omega)]
    · cases h
  · rw [if_pos (by decide)] at h
    split at h
    · rename_i h4
      cases h
      have ht := take_back 4 hlt h4
      have hN := take_lt 4 hlt h4
      rw [e4] at hN
      generalize pk 8 (rs.take 4) = N at *
      have hs : dsz 4 z (mkN 4 N) = 4 := by simp [dsz]
      rw [hs, ← ht]
      constructor
      · simp [ofB, hc, fineB, inB, bo, kn, mkN, ByteArray.size, wrap64]
        omega
      · have hw : ∀ m : Int, m = 4294967296 ∨ m = 18446744073709551616 → (N : Int) < m → (wrap64 (N : Int) % m).toNat = N := fun m hm hlt => by
          unfold wrap64
          rcases hm with rfl | rfl <;> omega
        simp only [db, mkN]
        simp
        rw [hw _ (by first | exact .inl rfl | exact .inr rfl) (by omega)]
    · cases h
  · rw [if_neg (by decide), if_pos (by decide)] at h
    split at h
    · rename_i h4
      cases h
      have ht := take_back 8 hlt h4
      have hN := take_lt 8 hlt h4
      rw [e8] at hN
      generalize pk 8 (rs.take 8) = N at *
      have hs : dsz 5 z (mkN 5 N) = 8 := by simp [dsz]
      rw [hs, ← ht]
      constructor
      · simp [ofB, hc, fineB, inB, bo, kn, mkN, ByteArray.size, wrap64]
        omega
      · have hw : ∀ m : Int, m = 4294967296 ∨ m = 18446744073709551616 → (N : Int) < m → (wrap64 (N : Int) % m).toNat = N := fun m hm hlt => by
          unfold wrap64
          rcases hm with rfl | rfl <;> omega
        simp only [db, mkN]
        simp
        rw [hw _ (by first | exact .inl rfl | exact .inr rfl) (by omega)]
    · cases h
  · rw [if_neg (by decide), if_neg (by decide), if_pos rfl] at h
    split at h
    · rename_i h4
      obtain ⟨h4, hx⟩ := h4
      cases h
      have ht := take_back 4 hlt h4
      have hw : ∀ b ∈ (rs.drop 4).take (pk 8 (rs.take 4)), b < 256 := fun b hb => hlt b (List.mem_of_mem_drop (List.mem_of_mem_take hb))
      generalize pk 8 (rs.take 4) = N at *
      have hll : ((rs.drop 4).take N).length = N := List.length_take_of_le (by rw [List.length_drop]; exact hx)
      have hs : (txt ((rs.drop 4).take N)).size = N := by rw [txt_size, hll]
      have hd : dsz 6 z ⟨6, 0, txt ((rs.drop 4).take N)⟩ = 4 + N := by simp [dsz, hs]
      rw [hd]
      constructor
      · simp [ofB, hc, fineB, inB, bo, kn, hs]
        omega
      · simp [db, hs]
        rw [txt_map _ hw, ht, List.take_add]
    · cases h
  · rw [if_neg (by decide), if_neg (by decide), if_neg (by decide)] at h
    split at h
    · rename_i h4
      cases h
      have hw : ∀ b ∈ rs.take z.toNat, b < 256 := fun b hb => hlt b (List.mem_of_mem_take hb)
      have hs : (txt (rs.take z.toNat)).size = z.toNat := by rw [txt_size, List.length_take_of_le h4]
      have hd : dsz 7 z ⟨7, 0, txt (rs.take z.toNat)⟩ = z.toNat := by simp [dsz]
      have b0 : bo 7 0 = 1 := by decide
      have b1 : bo 7 1 = 1048576 := by decide
      rw [hd]
      constructor
      · simp [ofB, hc, fineB, inB, bo, kn, hs]
        omega
      · simp [db]
        rw [txt_map _ hw]
    · cases h
/-- what was read is written as it was -/
theorem rds_back {k z : Int} (hc : chkB k z = true) (h0 : k ≠ 0) : ∀ (n : Nat) (bs : List Nat) (l : List Dat) (r : List Nat), bs.length ≤ 1048576 → (∀ x ∈ bs, x < 256) → rds k z n bs = some (l, r) → wAll k z l = true ∧ eb l ++ r = bs
  | 0, bs, l, r, _, _, h => by
    simp only [rds, Option.some.injEq, Prod.mk.injEq] at h
    obtain ⟨rfl, rfl⟩ := h
    exact ⟨rfl, rfl⟩
  | n + 1, bs, l, r, hl, hlt, h => by
    unfold rds at h
    cases hf : front k z bs with
    | none => rw [hf] at h; cases h
    | some d =>
      rw [hf] at h
      simp only at h
      cases hr : rds k z n (bs.drop (dsz k z d)) with
      | none => rw [hr] at h; cases h
      | some x =>
        obtain ⟨m, q⟩ := x
        rw [hr] at h
        simp only [Option.some.injEq, Prod.mk.injEq] at h
        obtain ⟨rfl, rfl⟩ := h
        obtain ⟨h1, h2⟩ := rds_back hc h0 n _ m q (by rw [List.length_drop]; omega) (fun x hx => hlt x (List.mem_of_mem_drop hx)) hr
        obtain ⟨h3, h4⟩ := front_back hc h0 hl hlt hf
        refine ⟨?_, ?_⟩
        · unfold wAll at h1 ⊢
          rw [List.all_cons, h3, h1]
          rfl
        · rw [eb, List.append_assoc, h2, h4, List.take_append_drop]
end Go.Proofs.Ytfocmlajeflenaa
