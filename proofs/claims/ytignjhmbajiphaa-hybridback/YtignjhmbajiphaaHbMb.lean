/-
  What is told is read; what is read fits.
-/
import Derived.Test.YtignjhmbajiphaaHbMa
import Derived.Test.YtignjhmbajiphaaHbSp
namespace Go.Proofs.Ytignjhmbajiphaa
set_option linter.unusedVariables false
open Go.RowKit

theorem runsB_len {W : Nat} (hW : W ≤ 32) : ∀ rs : List (Bool × List Int), (∀ r ∈ rs, 1 ≤ r.2.length) → (runsB W rs).length ≤ 42 * (flatN rs).length
  | [], _ => by simp [runsB]
  | r :: rs, h => by
    have h1 := runsB_len hW rs fun x hx => h x (List.mem_cons_of_mem _ hx)
    have h2 := h r List.mem_cons_self
    have h3 : (runB W r).length ≤ 42 * r.2.length := by
      obtain ⟨b, l⟩ := r
      have h2 : 1 ≤ l.length := h2
      show _ ≤ 42 * l.length
      cases b
      · rw [runB_rep_len]
        have := vb_len ((2 * l.length : Nat) : Int)
        omega
      · rw [runB_pack_len]
        have := vb_len ((2 * grp l.length + 1 : Nat) : Int)
        have h5 := Nat.mul_le_mul_left (grp l.length) hW
        have h6 : 8 * grp l.length ≤ l.length + 7 := by unfold grp; omega
        omega
    simp only [runsB, flatN, List.length_append]
    omega
theorem told_le {W : Nat} (hW : W ≤ 32) (l : List Int) : (told W l).length ≤ 42 * l.length := by
  have h := runsB_len hW (cutR l) fun r hr => (cut_fit l.length l (Nat.le_refl _) r hr).1
  rw [flat_cut l.length l (Nat.le_refl _)] at h
  exact h
theorem front_told {W : Nat} {l more : List Int} (hW : W ≤ 32) (hf : FitI W l) (hl : l.length ≤ 65536) : frontM W l.length (told W l ++ more) = .ok (cutR l, (told W l).length) := by
  unfold frontM
  rw [if_pos ⟨by omega, by omega, by omega⟩, Int.toNat_natCast, Int.toNat_natCast, told_read hW (rest := more) l.length l (l.length + 1) 0 [] (told W l ++ more) (Nat.le_refl _) hf hl (Nat.lt_succ_self _) rfl]
  simp
theorem read_told {W : Nat} {l : List Int} (hW : W ≤ 32) (hf : FitI W l) (hl : l.length ≤ 65536) : readM W l.length (told W l) = .ok l := by
  have h := front_told (more := []) hW hf hl
  rw [List.append_nil] at h
  unfold readM
  rw [h]
  simp only
  rw [if_pos trivial, flat_cut l.length l (Nat.le_refl _)]
theorem part_told {W : Nat} {l more : List Int} (hW : W ≤ 32) (hf : FitI W l) (hl : l.length ≤ 65536) : partM W l.length (told W l ++ more) = .ok (l, (told W l).length) := by
  unfold partM
  rw [front_told hW hf hl]
  simp only
  rw [flat_cut l.length l (Nat.le_refl _)]

theorem rdRun_fit {W : Nat} {bs : List Int} {t : Nat} {b : Bool} {l : List Int} {k : Nat} (hW : W ≤ 32) (hby : Bytes bs) (h : rdRun W bs t = .ok (b, l, k)) : FitI W l := by
  unfold rdRun at h
  cases hv : rv bs with
  | error e => rw [hv] at h; cases h
  | ok hk =>
    obtain ⟨hd, k0⟩ := hk
    rw [hv] at h
    simp only at h
    by_cases ho : hd % 2 = 1
    · rw [if_pos ho] at h
      cases hp : rdP W (bs.drop k0) (hd / 2) t with
      | error e => rw [hp] at h; cases h
      | ok ls =>
        obtain ⟨l', s⟩ := ls
        rw [hp] at h
        cases h
        unfold rdP at hp
        split at hp
        · cases hp
        · split at hp
          · cases hp
          · split at hp
            · cases hp
            · cases hp
              intro x hx
              unfold ints at hx
              obtain ⟨y, hy, rfl⟩ := List.mem_map.1 hx
              have := upk_fit W _ _ y (List.mem_of_mem_take hy)
              exact ⟨Int.natCast_nonneg _, by rw [Int.toNat_natCast]; exact this⟩
    · rw [if_neg ho] at h
      cases hp : rdR W (bs.drop k0) (hd / 2) t with
      | error e => rw [hp] at h; cases h
      | ok ls =>
        obtain ⟨l', s⟩ := ls
        rw [hp] at h
        cases h
        unfold rdR at hp
        split at hp
        · cases hp
        · split at hp
          · cases hp
          · split at hp
            · cases hp
            · rename_i hc
              cases hp
              have hrb := rl_bound ((bs.drop k0).take ((W + 7) / 8)) (fun x hx => hby x (List.mem_of_mem_drop (List.mem_of_mem_take hx)))
              have hle : (256 : Int) ^ ((bs.drop k0).take ((W + 7) / 8)).length ≤ 4294967296 := by
                have hk : ((bs.drop k0).take ((W + 7) / 8)).length ≤ 4 := by rw [List.length_take]; omega
                generalize ((bs.drop k0).take ((W + 7) / 8)).length = q at hk
                have h5 : q = 0 ∨ q = 1 ∨ q = 2 ∨ q = 3 ∨ q = 4 := by omega
                rcases h5 with rfl | rfl | rfl | rfl | rfl <;> decide
              generalize rl ((bs.drop k0).take ((W + 7) / 8)) = x at *
              intro y hy
              rw [(List.mem_replicate.1 hy).2]
              exact ⟨hrb.1, (fits_iff x.toNat W (by omega) (by omega)).1 (by omega)⟩
theorem rdA_fit {W : Nat} {zs : List Int} (hW : W ≤ 32) (hby : Bytes zs) : ∀ (f t p : Nat) (rs rs' : List (Bool × List Int)) (q : Nat), FitI W (flatN rs) → rdA W zs f t p rs = .ok (rs', q) → FitI W (flatN rs')
  | 0, t, _, _, _, _, hf, h => by rw [rdA] at h; cases h; exact hf
  | f + 1, t, p, rs, rs', q, hf, h => by
    rw [rdA] at h
    by_cases h0 : t = 0
    · rw [if_pos h0] at h
      cases h
      exact hf
    · rw [if_neg h0] at h
      cases hx : rdRun W (zs.drop p) t with
      | error e => rw [hx] at h; cases h
      | ok blk =>
        obtain ⟨b, l, k⟩ := blk
        rw [hx] at h
        have h1 := rdRun_fit hW (fun x hx => hby x (List.mem_of_mem_drop hx)) hx
        refine rdA_fit hW hby f _ _ (rs ++ [(b, l)]) rs' q ?_ h
        intro x hx
        rw [flatN_snoc] at hx
        rcases List.mem_append.1 hx with h2 | h2
        · exact hf x h2
        · exact h1 x h2
theorem readM_fit {wd ct : Int} {zs l : List Int} (hby : Bytes zs) (hct : ct ≤ 65536) (h : readM wd ct zs = .ok l) : ∃ W : Nat, wd = W ∧ W ≤ 32 ∧ FitI W l ∧ (l.length : Int) = ct := by
  unfold readM at h
  cases hf : frontM wd ct zs with
  | error e => rw [hf] at h; cases h
  | ok rp =>
    obtain ⟨rs, p⟩ := rp
    rw [hf] at h
    simp only at h
    have hfo := frontM_ok hct hf
    split at h
    · cases h
      obtain ⟨W, rfl⟩ := Int.eq_ofNat_of_zero_le hfo.1.1
      have hW : W ≤ 32 := by have := hfo.1.2.1; omega
      refine ⟨W, rfl, hW, ?_, hfo.2.1⟩
      unfold frontM at hf
      rw [if_pos hfo.1, Int.toNat_natCast] at hf
      exact rdA_fit hW hby _ _ _ _ _ _ (fun x hx => by simp [flatN] at hx) hf
    · cases h
theorem rdR_err {W : Nat} {zs : List Int} {n : Int} {t : Nat} {c : Int} (h : rdR W zs n t = .error c) : c ≠ 0 := by
  unfold rdR at h
  split at h
  · cases h; decide
  · split at h
    · cases h; decide
    · split at h
      · cases h; decide
      · cases h
theorem rdP_err {W : Nat} {zs : List Int} {n : Int} {t : Nat} {c : Int} (h : rdP W zs n t = .error c) : c ≠ 0 := by
  unfold rdP at h
  split at h
  · cases h; decide
  · split at h
    · cases h; decide
    · split at h
      · cases h; decide
      · cases h
theorem rdRun_err {W : Nat} {bs : List Int} {t : Nat} {c : Int} (h : rdRun W bs t = .error c) : c ≠ 0 := by
  unfold rdRun at h
  cases hv : rv bs with
  | error e => rw [hv] at h; cases h; exact rvF_err _ _ _ _ _ hv
  | ok hk =>
    obtain ⟨hd, k0⟩ := hk
    rw [hv] at h
    simp only at h
    by_cases ho : hd % 2 = 1
    · rw [if_pos ho] at h
      cases hp : rdP W (bs.drop k0) (hd / 2) t with
      | error e => rw [hp] at h; cases h; exact rdP_err hp
      | ok ls => rw [hp] at h; cases h
    · rw [if_neg ho] at h
      cases hp : rdR W (bs.drop k0) (hd / 2) t with
      | error e => rw [hp] at h; cases h; exact rdR_err hp
      | ok ls => rw [hp] at h; cases h
theorem rdA_err {W : Nat} {zs : List Int} : ∀ (f t p : Nat) (rs : List (Bool × List Int)) (c : Int), rdA W zs f t p rs = .error c → c ≠ 0
  | 0, _, _, _, _, h => by rw [rdA] at h; cases h
  | f + 1, t, p, rs, c, h => by
    rw [rdA] at h
    by_cases h0 : t = 0
    · rw [if_pos h0] at h; cases h
    · rw [if_neg h0] at h
      cases hx : rdRun W (zs.drop p) t with
      | error e => rw [hx] at h; cases h; exact rdRun_err hx
      | ok blk =>
        obtain ⟨b, l, k⟩ := blk
        rw [hx] at h
        exact rdA_err f _ _ _ c h
theorem readM_err {wd ct : Int} {zs : List Int} {c : Int} (h : readM wd ct zs = .error c) : c ≠ 0 := by
  unfold readM at h
  cases hf : frontM wd ct zs with
  | error e =>
    rw [hf] at h
    cases h
    unfold frontM at hf
    split at hf
    · exact rdA_err _ _ _ _ _ hf
    · cases hf; decide
  | ok rp =>
    obtain ⟨rs, p⟩ := rp
    rw [hf] at h
    simp only at h
    split at h
    · cases h
    · cases h; decide
theorem bytes_ints {B len : Nat} : Bytes (ints (upk 8 len B)) := by
  intro x hx
  unfold ints at hx
  obtain ⟨y, hy, rfl⟩ := List.mem_map.1 hx
  have := upk_fit 8 len B y hy
  omega
theorem fit_i64 {W : Nat} (hW : W ≤ 32) {l : List Int} (h : FitI W l) : I64 l := fun x hx => by
  have := h x hx
  have hp : 2 ^ W ≤ 2 ^ 32 := Nat.pow_le_pow_right (by omega) hW
  omega
theorem vbf_byte : ∀ (f : Nat) (n : Int), 0 ≤ n → n < 128 ^ (f + 1) → Bytes (vbf f n)
  | 0, n, h0, h1 => by
    intro x hx
    simp [vbf] at hx
    subst hx
    have : x < 128 := by simpa using h1
    omega
  | f + 1, n, h0, h1 => by
    intro x hx
    simp only [vbf] at hx
    split at hx
    · rcases List.mem_cons.1 hx with rfl | hx
      · omega
      · refine vbf_byte f (n / 128) (by omega) ?_ x hx
        rw [Int.pow_succ] at h1
        generalize (128 : Int) ^ (f + 1) = p at *
        omega
    · simp at hx
      subst hx
      omega
theorem lb_byte : ∀ (k : Nat) (n : Int), Bytes (lb k n)
  | 0, n => by intro x hx; simp [lb] at hx
  | k + 1, n => by
    intro x hx
    simp only [lb, List.mem_cons] at hx
    rcases hx with rfl | hx
    · omega
    · exact lb_byte k _ x hx
theorem runB_byte (W : Nat) (r : Bool × List Int) (h : r.2.length ≤ 70000) : Bytes (runB W r) := by
  have hv : ∀ n : Nat, n ≤ 1000000 → Bytes (vb (n : Int)) := fun n hn => by
    have h3 : (1000000 : Int) < 128 ^ (9 + 1) := by decide
    exact vbf_byte 9 _ (by omega) (by omega)
  intro x hx
  unfold runB at hx
  split at hx
  · rcases List.mem_append.1 hx with h1 | h1
    · exact hv _ (by unfold grp; omega) x h1
    · exact bytes_ints x h1
  · rcases List.mem_append.1 hx with h1 | h1
    · exact hv _ (by omega) x h1
    · exact lb_byte _ _ x h1
theorem told_byte (W : Nat) {l : List Int} (h : l.length ≤ 70000) : Bytes (told W l) := by
  have : ∀ rs : List (Bool × List Int), (∀ r ∈ rs, r.2.length ≤ 70000) → Bytes (runsB W rs) := by
    intro rs
    induction rs with
    | nil => intro _ x hx; simp [runsB] at hx
    | cons r rs ih =>
      intro hr x hx
      rcases List.mem_append.1 hx with h1 | h1
      · exact runB_byte W r (hr r List.mem_cons_self) x h1
      · exact ih (fun y hy => hr y (List.mem_cons_of_mem _ hy)) x h1
  exact this _ fun r hr => by have := cut_fit l.length l (Nat.le_refl _) r hr; omega
end Go.Proofs.Ytignjhmbajiphaa
