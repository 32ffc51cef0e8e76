/-
  What is told is read as it was: mathematics.
-/
import Derived.Test.YtignjhmbajiphaaHbQ
import Derived.Laws.BitsAllLaws
namespace Go.Proofs.Ytignjhmbajiphaa
set_option linter.unusedVariables false
open Go.RowKit

/-- the byte that stands first -/
def hdb (m : Int) : Int := if 128 ≤ m then 128 + m % 128 else m
theorem andnot128 (m : Int) (hm : 0 ≤ m) : bits .andNot .u8 (hdb m) 128 = m % 128 := by
  have hb : 0 ≤ hdb m ∧ hdb m < 256 ∧ hdb m % 128 = m % 128 := by unfold hdb; split <;> omega
  rw [u8_andNot _ _ (by omega) (by omega) (by omega) (by omega)]
  have e := nat_mask7 (hdb m).toNat
  rw [show (255 - (128 : Int).toNat) = 127 from rfl, e]
  omega
theorem acc_step (N j : Nat) (hN : N < 18446744073709551616) :
    bits .or .u64 ((N % 2 ^ (7 * j) : Nat) : Int) (IntKind.u64.wrap (IntKind.u64.wrap (bits .andNot .u8 (hdb ((N / 2 ^ (7 * j) : Nat) : Int)) 128) * 2 ^ (7 * j))) = ((N % 2 ^ (7 * (j + 1)) : Nat) : Int) := by
  rw [andnot128 _ (Int.natCast_nonneg _)]
  have hpow : (2 : Int) ^ (7 * j) = ((2 ^ (7 * j) : Nat) : Int) := by simp
  have hpow2 : 2 ^ (7 * (j + 1)) = 2 ^ (7 * j) * 128 := by rw [Nat.mul_add, Nat.pow_add]
  rw [hpow, hpow2, Nat.mod_mul]
  have hP : 0 < 2 ^ (7 * j) := Nat.two_pow_pos _
  generalize hQ : 2 ^ (7 * j) = P at *
  have hle : N / P % 128 * P ≤ N := Nat.le_trans (Nat.mul_le_mul_right P (Nat.mod_le _ _)) (Nat.div_mul_le_self N P)
  have e1 : IntKind.u64.wrap (((N / P : Nat) : Int) % 128) = ((N / P % 128 : Nat) : Int) := by rw [IntKind.wrap_u64]; omega
  rw [e1, ← Int.natCast_mul]
  have e2 : IntKind.u64.wrap ((N / P % 128 * P : Nat) : Int) = ((N / P % 128 * P : Nat) : Int) := by rw [IntKind.wrap_u64]; omega
  have hlt : N % P < P := Nat.mod_lt _ hP
  have hle2 : N % P ≤ N := Nat.mod_le _ _
  rw [e2, u64_or_nat _ _ (by omega) (by omega), Nat.or_comm, nat_join (7 * j) _ _ (by rw [hQ]; exact Nat.mul_mod_left _ _) (by rw [hQ]; exact hlt), Nat.mul_comm P, Nat.add_comm]
theorem vb_cons (m : Int) (h : m ≤ 18446744073709551615) : vb m = hdb m :: (if 128 ≤ m then vb (m / 128) else []) := by
  rw [vb_step m h]
  unfold hdb
  split <;> rfl
theorem rvF_vb (N : Nat) (hN : N < 18446744073709551616) (rest : List Int) : ∀ (d j : Nat), j + d = 9 → (j = 0 ∨ 1 ≤ N / 2 ^ (7 * j)) →
    rvF (vb ((N / 2 ^ (7 * j) : Nat) : Int) ++ rest) j ((N % 2 ^ (7 * j) : Nat) : Int) false = .ok ((N : Int), j + (vb ((N / 2 ^ (7 * j) : Nat) : Int)).length) := by
  intro d
  induction d with
  | zero =>
    intro j hj h1
    obtain rfl : j = 9 := by omega
    have hm : N / 2 ^ (7 * 9) ≤ 1 := by
      have : N / 2 ^ 63 ≤ 1 := by omega
      simpa using this
    have hacc := acc_step N 9 hN
    have hmod : N % 2 ^ (7 * (9 + 1)) = N := Nat.mod_eq_of_lt (Nat.lt_of_lt_of_le hN (by decide))
    rw [hmod] at hacc
    generalize N / 2 ^ (7 * 9) = m at *
    have hm1 : m = 1 := by omega
    subst hm1
    have hv : vb ((1 : Nat) : Int) = [1] := by decide
    have hh : hdb ((1 : Nat) : Int) = 1 := by decide
    rw [hh] at hacc
    rw [hv]
    simp only [List.singleton_append, rvF]
    rw [if_neg (by decide), if_neg (by decide), if_neg (by decide)]
    unfold rvAcc
    rw [show min (7 * 9) 64 = 7 * 9 by decide, hacc]
    rfl
  | succ d ih =>
    intro j hj h1
    have hj8 : j ≤ 8 := by omega
    have hacc := acc_step N j hN
    have hnext : N / 2 ^ (7 * (j + 1)) = N / 2 ^ (7 * j) / 128 := by rw [Nat.mul_add, Nat.pow_add, Nat.div_div_eq_div_mul]
    have hmle : N / 2 ^ (7 * j) ≤ N := Nat.div_le_self _ _
    have ihj := ih (j + 1) (by omega)
    rw [hnext] at ihj
    have hlast : N / 2 ^ (7 * j) < 128 → N % 2 ^ (7 * (j + 1)) = N := by
      intro h
      apply Nat.mod_eq_of_lt
      have hz : N / 2 ^ (7 * (j + 1)) = 0 := by rw [hnext]; exact Nat.div_eq_of_lt h
      have hp := Nat.two_pow_pos (7 * (j + 1))
      rcases Nat.lt_or_ge N (2 ^ (7 * (j + 1))) with h2 | h2
      · exact h2
      · have := Nat.div_pos h2 hp
        omega
    generalize N / 2 ^ (7 * j) = m at *
    rw [vb_cons (m : Int) (by omega)]
    simp only [List.cons_append, rvF]
    have hj9 : decide (j = 9) = false := by simp; omega
    have hra : rvAcc ((N % 2 ^ (7 * j) : Nat) : Int) (hdb (m : Int)) j = ((N % 2 ^ (7 * (j + 1)) : Nat) : Int) := by
      unfold rvAcc
      rw [show min (7 * j) 64 = 7 * j by omega]
      exact hacc
    rw [hra, hj9]
    by_cases hm : 128 ≤ m
    · rw [if_pos (show 128 ≤ hdb (m : Int) by unfold hdb; rw [if_pos (by omega)]; omega), if_pos (show (128 : Int) ≤ (m : Int) by omega)]
      have e : ((m : Int) / 128) = ((m / 128 : Nat) : Int) := by omega
      have h3 := ihj (.inr (by omega))
      rw [e, show (false || (false && decide (1 < hdb (m : Int)))) = false by simp, h3]
      congr 2
      simp only [List.length_cons]
      omega
    · have hh : hdb (m : Int) = (m : Int) := by unfold hdb; rw [if_neg (by omega)]
      rw [hh, if_neg (by omega), if_neg (by simp), if_neg (by omega), if_neg (show ¬ (128 : Int) ≤ (m : Int) by omega), hlast (by omega)]
      rfl
theorem rv_vb (N : Nat) (hN : N < 18446744073709551616) (rest : List Int) : rv (vb (N : Int) ++ rest) = .ok ((N : Int), (vb (N : Int)).length) := by
  have h := rvF_vb N hN rest 9 0 rfl (.inl rfl)
  unfold rv
  simpa [Nat.mod_one] using h

theorem rl_lb : ∀ (k : Nat) (n : Int), 0 ≤ n → n < 256 ^ k → rl (lb k n) = n
  | 0, n, h0, h1 => by
    have : n < 1 := by simpa using h1
    simp [lb, rl]
    omega
  | k + 1, n, h0, h1 => by
    rw [Int.pow_succ] at h1
    have ih := rl_lb k (n / 256) (by omega) (by generalize (256 : Int) ^ k = q at *; omega)
    simp only [lb, rl, ih]
    omega
theorem lt_256 {W : Nat} (hW : W ≤ 32) {x : Int} (h0 : 0 ≤ x) (h : x.toNat < 2 ^ W) : x < 256 ^ ((W + 7) / 8) := by
  have h1 : 2 ^ W ≤ 2 ^ (8 * ((W + 7) / 8)) := Nat.pow_le_pow_right (by omega) (by omega)
  rw [Nat.pow_mul] at h1
  have h2 : x.toNat < 256 ^ ((W + 7) / 8) := Nat.lt_of_lt_of_le h h1
  have h3 : ((256 ^ ((W + 7) / 8) : Nat) : Int) = (256 : Int) ^ ((W + 7) / 8) := by simp
  omega
theorem all_same {l : List Int} {x : Int} (h : ∀ y ∈ l, y = x) : List.replicate l.length x = l := by
  induction l with
  | nil => rfl
  | cons a l ih =>
    rw [List.length_cons, List.replicate_succ, ih (fun y hy => h y (List.mem_cons_of_mem _ hy)), h a List.mem_cons_self]
theorem rdRun_rep {W t : Nat} {l rest : List Int} (hW : W ≤ 32) (hf : FitI W l) (h1 : 1 ≤ l.length) (h2 : l.length ≤ t) (ht : t ≤ 65536) (hs : ∀ y ∈ l, y = l.getD 0 0) :
    rdRun W (runB W (false, l) ++ rest) t = .ok (false, l, (runB W (false, l)).length) := by
  have hx := hf _ (getD_mem (zs := l) (i := 0) (by omega))
  have hrep := all_same hs
  have hlen := runB_rep_len W l
  have hrun : runB W (false, l) = vb ((2 * l.length : Nat) : Int) ++ lb ((W + 7) / 8) (l.getD 0 0) := rfl
  rw [hlen, hrun]
  generalize l.getD 0 0 = x at *
  have hv := rv_vb (2 * l.length) (by omega) (lb ((W + 7) / 8) x ++ rest)
  unfold rdRun
  rw [List.append_assoc, hv]
  simp only
  rw [if_neg (by omega), List.drop_left' rfl]
  have hk : rl ((lb ((W + 7) / 8) x ++ rest).take ((W + 7) / 8)) = x := by
    rw [List.take_left' (lb_len _ _)]
    exact rl_lb _ _ hx.1 (lt_256 hW hx.1 hx.2)
  have hb := (fits_iff x.toNat W (by have : 2 ^ W ≤ 2 ^ 32 := Nat.pow_le_pow_right (by omega) hW
                                     omega) (by omega)).2 hx.2
  have hd : (((2 * l.length : Nat) : Int) / 2) = (l.length : Int) := by omega
  have e : rdR W (lb ((W + 7) / 8) x ++ rest) (((2 * l.length : Nat) : Int) / 2) t = .ok (l, (W + 7) / 8) := by
    rw [hd]
    unfold rdR
    rw [if_neg (by omega), if_neg (by rw [List.length_append, lb_len]; omega), hk, if_neg (by omega), Int.toNat_natCast, hrep]
  rw [e]
theorem nats_ints (l : List Nat) : nats (ints l) = l := by
  unfold nats ints
  rw [List.map_map]
  conv => rhs; rw [← List.map_id l]
  exact List.map_congr_left fun x _ => by simp
theorem ints_nats {l : List Int} (h : ∀ x ∈ l, 0 ≤ x) : ints (nats l) = l := by
  unfold nats ints
  rw [List.map_map]
  conv => rhs; rw [← List.map_id l]
  exact List.map_congr_left fun x hx => by
    have := h x hx
    show ((x.toNat : Nat) : Int) = x
    omega
theorem rdRun_pack {W t : Nat} {l rest : List Int} (hW : W ≤ 32) (hf : FitI W l) (h1 : 1 ≤ l.length) (h2 : l.length ≤ t) (ht : t ≤ 65536) (hp : l.length % 8 = 0 ∨ l.length = t) :
    rdRun W (runB W (true, l) ++ rest) t = .ok (true, l, (runB W (true, l)).length) := by
  have hlen := runB_pack_len W l
  have hrun : runB W (true, l) = vb ((2 * grp l.length + 1 : Nat) : Int) ++ ints (upk 8 (grp l.length * W) (pk W (nats (filled l)))) := rfl
  rw [hlen, hrun]
  have hfl := filled_len l
  have hff := hf.filled
  have hg : grp l.length ≤ 8192 ∧ 8 * grp l.length ≤ l.length + 7 ∧ l.length ≤ 8 * grp l.length ∧ 1 ≤ grp l.length ∧ grp l.length ≤ grp t := by unfold grp; omega
  have hFit : Fit W (nats (filled l)) := by
    intro n hn
    obtain ⟨x, hx, rfl⟩ := List.mem_map.1 hn
    exact (hff x hx).2
  have hnl : (nats (filled l)).length = 8 * grp l.length := by rw [nats, List.length_map, hfl]
  have hP : pk W (nats (filled l)) < 2 ^ (8 * (grp l.length * W)) := by
    have := pk_lt W _ hFit
    rwa [hnl, show W * (8 * grp l.length) = 8 * (grp l.length * W) by rw [Nat.mul_comm W, Nat.mul_assoc]] at this
  have hU : upk W (8 * grp l.length) (pk W (nats (filled l))) = nats (filled l) := by
    have := upk_pk W _ hFit
    rwa [hnl] at this
  have hnf : nats (filled l) = nats l ++ List.replicate (8 * grp l.length - l.length) 0 := by simp [nats, filled]
  have hl0 : ∀ x ∈ l, 0 ≤ x := fun x hx => (hf x hx).1
  have hnll : (nats l).length = l.length := by simp [nats]
  generalize hG : grp l.length = G at *
  have hv := rv_vb (2 * G + 1) (by omega) (ints (upk 8 (G * W) (pk W (nats (filled l)))) ++ rest)
  unfold rdRun
  rw [List.append_assoc, hv]
  simp only
  have hd : (((2 * G + 1 : Nat) : Int) / 2) = (G : Int) := by omega
  rw [if_pos (by omega), List.drop_left' rfl, hd]
  have hbl : (ints (upk 8 (G * W) (pk W (nats (filled l))))).length = G * W := by rw [ints, List.length_map, upk_len]
  have hpad : padB (G * W) (ints (upk 8 (G * W) (pk W (nats (filled l)))) ++ rest) = ints (upk 8 (G * W) (pk W (nats (filled l)))) := by
    unfold padB
    rw [List.take_left' hbl, List.length_append, hbl, show G * W - (G * W + rest.length) = 0 by omega]
    simp
  have hpk : pk 8 (upk 8 (G * W) (pk W (nats (filled l)))) = pk W (nats (filled l)) := pk_upk 8 _ _ hP
  have hmin : min (8 * G) t = l.length ∨ (min (8 * G) t = 8 * G ∧ 8 * G = l.length) := by omega
  have hml : min (8 * G) t = l.length := by omega
  have hbl2 := hbl
  rw [hnf] at hbl2
  have e : rdP W (ints (upk 8 (G * W) (pk W (nats (filled l)))) ++ rest) (G : Int) t = .ok (l, G * W) := by
    unfold rdP
    rw [if_neg (by omega), Int.toNat_natCast, hpad, nats_ints, hpk, hU, hml, hnf, List.drop_left' hnll, List.take_left' hnll, ints_nats hl0]
    rw [if_neg (by simp), if_neg (by rw [List.length_append, hbl2]; omega)]
  rw [e]

theorem mem_while {p : Int → Bool} : ∀ (l : List Int), ∀ y ∈ l.takeWhile p, p y = true
  | [], y, h => by simp at h
  | a :: l, y, h => by
    rw [List.takeWhile_cons] at h
    split at h
    · rcases List.mem_cons.1 h with rfl | h
      · assumption
      · exact mem_while l y h
    · simp at h
theorem same_head {l : List Int} {k : Nat} (hk : k = sameN l) (h1 : 1 ≤ k) : ∀ y ∈ l.take k, y = (l.take k).getD 0 0 := by
  have hle := sameN_le l
  have e : l.take k = l.takeWhile fun x => x == l.getD 0 0 := by
    rw [hk]
    unfold sameN
    have h := List.takeWhile_prefix (l := l) (fun x => x == l.getD 0 0)
    obtain ⟨t, ht⟩ := h
    conv => lhs; rw [← ht]
    conv => lhs; arg 1; rw [ht]
    rw [List.take_left' rfl]
  have e0 : (l.take k).getD 0 0 = l.getD 0 0 := by
    simp [List.getD, List.getElem?_take]
    rw [if_pos (by omega)]
  intro y hy
  rw [e0]
  rw [e] at hy
  have := mem_while _ y hy
  simpa using this
theorem flat_cut : ∀ (n : Nat) (l : List Int), l.length ≤ n → flatN (cutR l) = l
  | 0, l, h => by
    have : l = [] := List.length_eq_zero_iff.1 (by omega)
    subst this
    rw [cutR_nil rfl]
    rfl
  | n + 1, l, h => by
    by_cases h0 : l.length = 0
    · have : l = [] := List.length_eq_zero_iff.1 h0
      subst this
      rw [cutR_nil rfl]
      rfl
    · by_cases h8 : 8 ≤ sameN l
      · rw [cutR_same h8]
        have h1 := sameN_le l
        simp only [flatN]
        rw [flat_cut n _ (by rw [List.length_drop]; omega), List.take_append_drop]
      · rw [cutR_pack (by omega) h8]
        have h1 : 1 ≤ packN l := packF_ge l.length 8 l (by omega) (by omega)
        simp only [flatN]
        rw [flat_cut n _ (by rw [List.length_drop]; omega), List.take_append_drop]
theorem told_read {W : Nat} (hW : W ≤ 32) {rest : List Int} : ∀ (n : Nat) (l : List Int) (f p : Nat) (rs : List (Bool × List Int)) (zs : List Int), l.length ≤ n → FitI W l → l.length ≤ 65536 → l.length < f → zs.drop p = told W l ++ rest →
    rdA W zs f l.length p rs = .ok (rs ++ cutR l, p + (told W l).length)
  | n, l, 0, _, _, _, _, _, _, hf, _ => by omega
  | 0, l, f + 1, p, rs, zs, hn, hfi, hl, hf, hz => by
    rw [rdA, if_pos (by omega), cutR_nil (by omega), show told W l = [] by unfold told; rw [cutR_nil (by omega)]; rfl]
    simp
  | n + 1, l, f + 1, p, rs, zs, hn, hfi, hl, hf, hz => by
    rw [rdA]
    by_cases h0 : l.length = 0
    · rw [if_pos h0, cutR_nil h0, show told W l = [] by unfold told; rw [cutR_nil h0]; rfl]
      simp
    · rw [if_neg h0]
      by_cases h8 : 8 ≤ sameN l
      · have hle := sameN_le l
        have ht : told W l = runB W (false, l.take (sameN l)) ++ told W (l.drop (sameN l)) := by unfold told; rw [cutR_same h8]; rfl
        have hc := cutR_same h8
        have hsame := same_head (l := l) rfl (by omega : 1 ≤ sameN l)
        generalize sameN l = k at *
        have hkl : (l.take k).length = k := by rw [List.length_take]; omega
        have hr := rdRun_rep (W := W) (t := l.length) (l := l.take k) (rest := told W (l.drop k) ++ rest) hW hfi.take (by omega) (by omega) hl hsame
        rw [ht, List.append_assoc] at hz
        rw [hz, hr]
        simp only
        have hz2 : zs.drop (p + (runB W (false, l.take k)).length) = told W (l.drop k) ++ rest := by
          rw [← List.drop_drop, hz, List.drop_left' rfl]
        have ih := told_read hW n (l.drop k) f (p + (runB W (false, l.take k)).length) (rs ++ [(false, l.take k)]) zs (by rw [List.length_drop]; omega) hfi.drop (by rw [List.length_drop]; omega) (by rw [List.length_drop]; omega) hz2
        rw [List.length_drop] at ih
        rw [hkl, ih, hc, ht, List.length_append]
        simp [Nat.add_assoc]
      · have h1 : 1 ≤ packN l := packF_ge l.length 8 l (by omega) (by omega)
        have h2 : packN l ≤ l.length := packF_le _ _ _
        have h3 : packN l = l.length ∨ packN l % 8 = 0 := packF_full l.length 8 l (by decide)
        have ht : told W l = runB W (true, l.take (packN l)) ++ told W (l.drop (packN l)) := by unfold told; rw [cutR_pack (by omega) h8]; rfl
        have hc := cutR_pack (by omega) h8
        generalize packN l = k at *
        have hkl : (l.take k).length = k := by rw [List.length_take]; omega
        have hr := rdRun_pack (W := W) (t := l.length) (l := l.take k) (rest := told W (l.drop k) ++ rest) hW hfi.take (by omega) (by omega) hl (by rw [hkl]; omega)
        rw [ht, List.append_assoc] at hz
        rw [hz, hr]
        simp only
        have hz2 : zs.drop (p + (runB W (true, l.take k)).length) = told W (l.drop k) ++ rest := by
          rw [← List.drop_drop, hz, List.drop_left' rfl]
        have ih := told_read hW n (l.drop k) f (p + (runB W (true, l.take k)).length) (rs ++ [(true, l.take k)]) zs (by rw [List.length_drop]; omega) hfi.drop (by rw [List.length_drop]; omega) (by rw [List.length_drop]; omega) hz2
        rw [List.length_drop] at ih
        rw [hkl, ih, hc, ht, List.length_append]
        simp [Nat.add_assoc]
end Go.Proofs.Ytignjhmbajiphaa
