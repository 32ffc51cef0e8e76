/-
  What the reference's Pack answers.
-/
import Derived.Test.YtdglobonbhkheaaBPack
import Derived.Deep.RegionWith
import Derived.Laws.BitsLemmas
import Derived.Laws.BytesArg
namespace Go.Proofs.Ytdglobonbhkheaa
open Go.ChangeShapes Go.WideShapes Go.ChangeAt Go.RowKit

set_option maxRecDepth 100000 in
set_option maxHeartbeats 1000000 in
theorem powers_any (n : Nat) (w : World) (hn : n ≤ 7) :
    Calls Try.prog 37 #[.int .i64 n] w fun e w' => e = .returned (.int .u8 ((2 ^ n : Nat) : Int)) ∧ w' = w := by
  go_enter Try.func37, Try.ntmps37
  go_wp2
  go_loop [3, 4] (fun o c => ∃ (j : Nat) (p : Int), j ≤ n ∧ c = .int .i64 j ∧ o = .int .u8 p ∧ Hid (p = (2 ^ j : Nat))) (fun _ c => n - (intOf c).toNat)
  case atStart => exact ⟨0, 1, Nat.zero_le _, rfl, rfl, rfl⟩
  case round =>
    obtain ⟨j, p, hj, rfl, rfl, H⟩ := hrel
    by_cases hlt : j < n
    · have hp : 0 ≤ p ∧ p ≤ 64 := by
        have h1 : 2 ^ j ≤ 2 ^ 6 := Nat.pow_le_pow_right (by omega) (by omega)
        have h2 := H.out
        generalize 2 ^ j = r at h1 h2
        omega
      have hlt' : (j : Int) < (n : Int) := by omega
      go_wp2
      go_round
      case rel => exact ⟨j + 1, p * 2, by omega, by go_num, rfl, by show p * 2 = _; rw [H.out, Nat.pow_succ]; simp⟩
      case measure => simp [intOf]; omega
    · have hlt' : (n : Int) ≤ (j : Int) := by omega
      have hjn : j = n := by omega
      subst hjn
      go_wp2
      go_ret
      exact ⟨congrArg Ending.returned (congrArg (Value.int .u8) H.out), rfl⟩

set_option maxRecDepth 100000 in
set_option maxHeartbeats 2000000 in
theorem rpack_no (ad : Option Addr) (L cap : Nat) (wd : Int) (zs : List Int) (w : World) (hL : L ≤ 1048576) (hs : Src w ad L cap (zs.map (Value.int .u64))) (hu : U64 zs) (hno : wd < 0 ∨ 64 < wd ∨ wide wd zs = true) :
    Calls Try.prog 23 #[.int .i64 wd, .slice ad L cap] w fun e w' => e = .returned (.tuple #[.slice none 0 0, .int .i64 2]) ∧ w' = w := by
  by_cases c1 : wd < 0
  · go_enter Try.func23, Try.ntmps23
    go_wp2
    go_ret2
    exact ⟨rfl, rfl⟩
  by_cases c2 : 64 < wd
  · go_enter Try.func23, Try.ntmps23
    go_wp2
    go_ret2
    exact ⟨rfl, rfl⟩
  have c3 : Hid (wide wd zs = true) := by rcases hno with h | h | h; omega; omega; exact h
  have c1' : 0 ≤ wd := by omega
  have c2' : wd ≤ 64 := by omega
  have HZ : Hid (zs.length = L) := by show _ = _; simpa using hs.1
  clear hno c1 c2
  go_enter Try.func23, Try.ntmps23
  go_wp2
  go_loop [6] (fun c => ∃ j : Nat, c = .int .i64 j ∧ j ≤ L ∧ Hid (wide wd (zs.take j) = false)) (fun c => L - (intOf c).toNat)
  case atStart => exact ⟨0, rfl, Nat.zero_le _, by simp [Hid, wide]⟩
  case round =>
    obtain ⟨j, rfl, hj, H⟩ := hrel
    by_cases hlt : j < L
    · have hlt' : (j : Int) < (L : Int) := by omega
      obtain ⟨g, off, rfl, hcz⟩ := src_atI hs hlt
      have hjz : j < zs.length := by have := HZ.out; omega
      have hb := hu _ (getD_mem hjz)
      have HS : Hid _ := any_take_succ wd zs j hjz
      generalize zs.getD j 0 = z at *
      have hbl := bl_le64 z.toNat (by omega)
      cases hw : wide1 wd z
      · have hw' : (Lib.bitLen z.toNat : Int) ≤ wd := by unfold wide1 at hw; have := of_decide_eq_false hw; omega
        have HW : Hid _ := hw
        clear hw
        go_wp2_with (go_at_call 35; refine (rwidth_any _ _ hb.1 hb.2).mono ?_; rintro e wx ⟨rfl, hwx⟩; obtain rfl := hwx.symm)
        go_round
        case rel => exact ⟨j + 1, by go_num, by omega, by show _ = _; rw [HS.out, H.out, HW.out]; rfl⟩
        case measure => simp [intOf]; omega
      · have hw' : wd < (Lib.bitLen z.toNat : Int) := by unfold wide1 at hw; have := of_decide_eq_true hw; omega
        clear hw
        go_wp2_with (go_at_call 35; refine (rwidth_any _ _ hb.1 hb.2).mono ?_; rintro e wx ⟨rfl, hwx⟩; obtain rfl := hwx.symm)
        go_ret2
        exact ⟨rfl, rfl⟩
    · exfalso
      have e := H.out
      rw [List.take_of_length_le (by have := HZ.out; omega), c3.out] at e
      cases e

theorem rsize_ok {W L S : Nat} (hsz : sze W L = 0) (hS : S = (L * W + 7) / 8) (w : World) :
    Calls Try.prog 36 #[.int .i64 W, .int .i64 L] w fun e w' => e = .returned (.tuple #[.int .i64 S, .int .i64 0]) ∧ w' = w := by
  obtain ⟨h1, h2, h3, h4⟩ := size_le hsz
  have h := rsize_any W L w (by omega) (by omega) (by omega) (by omega)
  rw [hsz, h4, ← hS] at h
  exact h
theorem upk_zero (w : Nat) : ∀ k : Nat, upk w k 0 = List.replicate k 0
  | 0 => rfl
  | k + 1 => by simp [upk, upk_zero w k, List.replicate_succ]

theorem mod_bit (Z k : Nat) : Z % 2 ^ (k + 1) = Z % 2 ^ k + Z / 2 ^ k % 2 * 2 ^ k := by
  rw [Nat.pow_succ, Nat.mod_mul, Nat.mul_comm (2 ^ k)]
theorem acc_lt {N Z T k : Nat} (hN : N < 2 ^ T) : N + Z % 2 ^ k * 2 ^ T < 2 ^ (T + k) := by
  have h := Nat.mod_lt Z (Nat.two_pow_pos k)
  have h3 : (Z % 2 ^ k + 1) * 2 ^ T ≤ 2 ^ k * 2 ^ T := Nat.mul_le_mul_right _ h
  rw [← Nat.pow_add, Nat.add_mul, Nat.one_mul, Nat.add_comm k] at h3
  omega
theorem bit_byte {M t : Nat} (hM : M < 2 ^ t) : M / 2 ^ (8 * (t / 8)) < 2 ^ (t % 8) ∧ 2 ^ (t % 8) ≤ 128 ∧ 2 ^ (t % 8) * 2 ^ (8 * (t / 8)) = 2 ^ t := by
  have e : t % 8 + 8 * (t / 8) = t := by omega
  refine ⟨?_, ?_, ?_⟩
  · rw [Nat.div_lt_iff_lt_mul (Nat.two_pow_pos _), ← Nat.pow_add, e]
    exact hM
  · have : 2 ^ (t % 8) ≤ 2 ^ 7 := Nat.pow_le_pow_right (by omega) (by omega)
    omega
  · rw [← Nat.pow_add, e]
theorem bit_cell {wi : World} {B g S M t : Nat} (hown : wi.ownsRow B 5 1 (.slice (some ⟨g, 0, none⟩) S S) S (c8 (upk 8 S M))) (hM : M < 2 ^ t) (ht : t / 8 < S) :
    ∃ b q : Int, Hid (b = (M / 2 ^ (8 * (t / 8)) : Nat)) ∧ Hid (q = (2 ^ (t % 8) : Nat)) ∧ wi.cell? ⟨g, t / 8, none⟩ = some (.int .u8 b) ∧ wi.frozen? ⟨g, t / 8, none⟩ = false ∧ 0 ≤ b ∧ b + q ≤ 255 ∧ 1 ≤ q := by
  obtain ⟨h1, h2, _⟩ := bit_byte hM
  have h3 := Nat.two_pow_pos (t % 8)
  have h8 : M / 2 ^ (8 * (t / 8)) < 2 ^ 8 := by
    have : (2 : Nat) ^ 8 = 256 := rfl
    omega
  refine ⟨_, _, rfl, rfl, ?_, hown.frozenAt _, Int.natCast_nonneg _, ?_, ?_⟩
  · rw [hown.cellAt _ (by omega)]
    unfold c8
    rw [List.getElem?_map, upk_get 8 S M _ ht, Nat.mod_eq_of_lt h8]
    rfl
  · generalize M / 2 ^ (8 * (t / 8)) = b at *
    generalize 2 ^ (t % 8) = q at *
    omega
  · generalize 2 ^ (t % 8) = q at *
    omega
theorem bit_set {wi : World} {B g S M t : Nat} {b q : Int} (hown : wi.ownsRow B 5 1 (.slice (some ⟨g, 0, none⟩) S S) S (c8 (upk 8 S M))) (hM : M < 2 ^ t) (ht : t / 8 < S) (hb : b = (M / 2 ^ (8 * (t / 8)) : Nat)) (hq : q = (2 ^ (t % 8) : Nat)) :
    (wi.setCell ⟨g, t / 8, none⟩ (.int .u8 (b + q))).ownsRow B 5 1 (.slice (some ⟨g, 0, none⟩) S S) S (c8 (upk 8 S (M + 2 ^ t))) := by
  obtain ⟨h1, h2, h3⟩ := bit_byte hM
  have h := (hown.stored (t / 8) (.int .u8 (b + q))).1
  have h8 : M / 2 ^ (8 * (t / 8)) + 2 ^ (t % 8) < 2 ^ 8 := by
    have : (2 : Nat) ^ 8 = 256 := rfl
    omega
  rw [← h3, upk_add 8 S M (t / 8) _ ht h8]
  unfold c8 at h ⊢
  rw [List.map_set]
  rw [hb, hq, ← Int.natCast_add] at h ⊢
  exact h

theorem bit_next {wi : World} {w : World} {S N P k tt d m8 : Nat} {b q x z : Int} (hO : (wi.setCell ⟨w.heap.size, (P + k) / 8, none⟩ (.int .u8 (b + q))).ownsRow w.heap.size 5 1 (.slice (some ⟨w.heap.size, 0, none⟩) S S) S (c8 (upk 8 S (N + z.toNat % 2 ^ k * 2 ^ P + 2 ^ (P + k)))))
    (htt : tt = P + k) (hd : d = tt / 8) (hm8 : m8 = tt % 8) (hq : q = (2 ^ ((P + k) % 8) : Nat)) (hb0 : 0 ≤ b) (hbq : b + q ≤ 255) (hq1 : 1 ≤ q) (hbit : x % 2 = 1) (hx0 : 0 ≤ x) (hx : x.toNat = z.toNat / 2 ^ k) (hB : Below w.heap.size w wi) :
    (wi.setCell ⟨w.heap.size, d, none⟩ (.int .u8 (IntKind.u8.wrap (b + 2 ^ m8)))).drew.ownsRow w.heap.size 5 1 (.slice (some ⟨w.heap.size, 0, none⟩) S S) S (c8 (upk 8 S (N + z.toNat % 2 ^ (k + 1) * 2 ^ P))) ∧
      Below w.heap.size w (wi.setCell ⟨w.heap.size, d, none⟩ (.int .u8 (IntKind.u8.wrap (b + 2 ^ m8)))).drew := by
  have e1 : (2 : Int) ^ m8 = q := by rw [hq, hm8, htt]; simp
  have e2 : IntKind.u8.wrap (b + q) = b + q := by rw [IntKind.wrap_u8]; omega
  have e3 : z.toNat / 2 ^ k % 2 = 1 := by rw [← hx]; omega
  rw [e1, e2, mod_bit, e3, hd, htt, Nat.add_mul, Nat.one_mul, ← Nat.pow_add, Nat.add_comm k, ← Nat.add_assoc]
  exact ⟨hO.drew, (hB.setCell (p := ⟨w.heap.size, (P + k) / 8, none⟩) (Nat.le_refl _) _).drew⟩
theorem bit_same {N P k : Nat} {x z : Int} (hbit : x % 2 = 0) (_hx0 : 0 ≤ x) (hx : x.toNat = z.toNat / 2 ^ k) : N + z.toNat % 2 ^ (k + 1) * 2 ^ P = N + z.toNat % 2 ^ k * 2 ^ P := by
  have e3 : z.toNat / 2 ^ k % 2 = 0 := by rw [← hx]; omega
  rw [mod_bit, e3, Nat.zero_mul, Nat.add_zero]
theorem half_next {k : Nat} {x z : Int} (_hx0 : 0 ≤ x) (hx : x.toNat = z.toNat / 2 ^ k) : (x / 2).toNat = z.toNat / 2 ^ (k + 1) := by
  rw [Nat.pow_succ, ← Nat.div_div_eq_div_mul, ← hx]
  omega

set_option maxRecDepth 100000 in
set_option maxHeartbeats 4000000 in
theorem rpack_yes (ad : Option Addr) (L cap W S : Nat) (zs : List Int) (w : World) (hs : Src w ad L cap (zs.map (Value.int .u64))) (hu : U64 zs) (hwd : wide W zs = false) (hsz : sze W L = 0) (hS : S = (L * W + 7) / 8) :
    Calls Try.prog 23 #[.int .i64 W, .slice ad L cap] w fun e w' => ∃ v, e = .returned (.tuple #[v, .int .i64 0]) ∧ w'.ownsRow w.heap.size 5 1 v S (c8 (upk 8 S (pk W (nats zs)))) ∧ Below w.heap.size w w' := by
  obtain ⟨hW, hL, hSb, _⟩ := size_le hsz
  have HZ : Hid (zs.length = L) := by show _ = _; simpa using hs.1
  have HS : Hid (S = (L * W + 7) / 8) := hS
  rw [← hS] at hSb
  obtain ⟨i0, hi, hz0, hz1, hz2⟩ := info_parts Try.info5
  have CS := fun wx => rsize_ok hsz hS wx
  have c2' : (W : Int) ≤ 64 := by omega
  have hwd' : Hid (wide W zs = false) := hwd
  clear hS hsz hwd
  go_enter Try.func23, Try.ntmps23
  go_wp2
  go_loop [6] (fun c => ∃ j : Nat, c = .int .i64 j ∧ j ≤ L) (fun c => L - (intOf c).toNat)
  case atStart => exact ⟨0, rfl, Nat.zero_le _⟩
  case round =>
    obtain ⟨j, rfl, hj⟩ := hrel
    by_cases hlt : j < L
    · have hlt' : (j : Int) < (L : Int) := by omega
      obtain ⟨g, off, rfl, hcz⟩ := src_atI hs hlt
      have hjz : j < zs.length := by have := HZ.out; omega
      have hb := hu _ (getD_mem hjz)
      have HF := (fits_iff (zs.getD j 0).toNat W (by omega) hW).2 (pack_fit hwd' hu hW hjz)
      generalize zs.getD j 0 = z at *
      have hw' : (Lib.bitLen z.toNat : Int) ≤ (W : Int) := by omega
      go_wp2_with (go_at_call 35; refine (rwidth_any _ _ hb.1 hb.2).mono ?_; rintro e wx ⟨rfl, hwx⟩; obtain rfl := hwx.symm)
      go_round
      case rel => exact ⟨j + 1, by go_num, by omega⟩
      case measure => simp [intOf]; omega
    · have hlt' : (L : Int) ≤ (j : Int) := by omega
      go_wp2_with (first | (go_at_call 36; refine (CS _).mono ?_; rintro e wx ⟨rfl, hwx⟩; obtain rfl := hwx.symm) | (at_make; refine wpList_make_full _ rfl _ _ 27 rfl w.heap.size 5 i0 (.int .u8 0) 1 Try.underlying27 hi hz0 hz1 _ _ _ _ S rfl rfl rfl rfl (by rw [hz2]; omega) (by unfold maxLen; omega) (Nat.le_refl _) ?_; intro w1 hown1 hgrow1))
      have B1 : Below w.heap.size w w1 := (Below.refl _ w).grown hgrow1 (Nat.le_refl _) (fun _ e => by cases e)
      rw [made_zero] at hown1
      have hown1' : w1.ownsRow w.heap.size 5 1 (.slice (some ⟨w.heap.size, 0, none⟩) S S) S (c8 (upk 8 S 0)) := by rw [upk_zero]; simpa [c8] using hown1
      clear hown1 hgrow1 CS hi hz0 hz1 hz2 hj
      go_loopw [10, 11, 12] (fun c _ _ wr => ∃ i : Nat, c = .int .i64 i ∧ i ≤ L ∧ wr.ownsRow w.heap.size 5 1 (.slice (some ⟨w.heap.size, 0, none⟩) S S) S (c8 (upk 8 S (pk W ((nats zs).take i)))) ∧ Below w.heap.size w wr)
        (fun c _ _ _ => L - (intOf c).toNat)
      case atStart => exact ⟨0, rfl, Nat.zero_le _, by simpa [pk] using hown1', B1⟩
      case round =>
        obtain ⟨i, rfl, hi, hown, hB⟩ := hrel
        clear hown1' B1
        by_cases hlt2 : i < L
        · have hlt2' : (i : Int) < (L : Int) := by omega
          obtain ⟨g, off, rfl, hcz⟩ := src_atI (hs.later hB) hlt2
          have hiz : i < zs.length := by have := HZ.out; omega
          have hb := hu _ (getD_mem hiz)
          have HF : Hid _ := pack_fit hwd' hu hW hiz
          have HK : Hid _ := pk_more W zs i hiz
          have HN : Hid (pk W ((nats zs).take i) < 2 ^ (W * i)) := pack_lt hwd' hu hW (by omega)
          generalize zs.getD i 0 = z at *
          generalize pk W ((nats zs).take i) = N at *
          obtain ⟨P, hP⟩ : ∃ P : Nat, P = i * W := ⟨_, rfl⟩
          have hP1 : (i : Int) * (W : Int) = (P : Int) := by rw [hP]; simp
          have HP : Hid (P = W * i) := by show _ = _; rw [hP, Nat.mul_comm]
          have hPb : P ≤ 67108864 := by rw [hP]; exact Nat.mul_le_mul (show i ≤ 1048576 by omega) hW
          have HPS : Hid (P + W ≤ 8 * S) := by
            have h1 := HS.out
            have h2 : (i + 1) * W ≤ L * W := Nat.mul_le_mul_right _ hlt2
            rw [Nat.add_mul, Nat.one_mul, ← hP] at h2
            show _ ≤ _
            omega
          clear hP
          rw [HP.out.symm] at HN HK
          go_wp2
          go_loopw [11, 12] (fun xv kv wi => ∃ (k : Nat) (x : Int), kv = .int .i64 k ∧ xv = .int .u64 x ∧ k ≤ W ∧ 0 ≤ x ∧ x ≤ 18446744073709551615 ∧ Hid (x.toNat = z.toNat / 2 ^ k) ∧ wi.ownsRow w.heap.size 5 1 (.slice (some ⟨w.heap.size, 0, none⟩) S S) S (c8 (upk 8 S (N + z.toNat % 2 ^ k * 2 ^ P))) ∧ Below w.heap.size w wi)
            (fun _ kv _ => W - (intOf kv).toNat)
          case atStart => exact ⟨0, z, rfl, rfl, Nat.zero_le _, hb.1, hb.2, by simp [Hid], by simpa [Nat.mod_one] using hown, hB⟩
          case round =>
            obtain ⟨k, x, rfl, rfl, hk, hx0, hx1, HX, hown2, hB2⟩ := hrel
            by_cases hlt3 : k < W
            · have hlt3' : (k : Int) < (W : Int) := by omega
              by_cases hbit : x % 2 = 1
              · have hM := acc_lt (Z := z.toNat) (k := k) HN.out
                have ht8 : (P + k) / 8 < S := by have := HPS.out; omega
                obtain ⟨b, q, HBb, HBq, hcell, hfz, hb0, hbq, hq1⟩ := bit_cell hown2 hM ht8
                have HO : Hid _ := bit_set hown2 hM ht8 HBb.out HBq.out
                clear hown2 hM
                obtain ⟨tt, htt⟩ : ∃ tt : Nat, tt = P + k := ⟨_, rfl⟩
                obtain ⟨d, hd⟩ : ∃ d : Nat, d = tt / 8 := ⟨_, rfl⟩
                obtain ⟨m8, hm8⟩ : ∃ m8 : Nat, m8 = tt % 8 := ⟨_, rfl⟩
                rw [← htt, ← hd] at hcell hfz ht8
                have HTT : Hid (tt = P + k) := htt
                have HD : Hid (d = tt / 8) := hd
                have HM8 : Hid (m8 = tt % 8) := hm8
                have hm7 : m8 ≤ 7 := by omega
                have r1 : Hid (IntKind.i64.wrap (P : Int) = (P : Int)) := by show _ = _; rw [IntKind.wrap_i64]; omega
                have r2 : Hid (IntKind.i64.wrap ((P : Int) + (k : Int)) = (tt : Int)) := by show _ = _; rw [IntKind.wrap_i64]; omega
                have r3 : Hid (IntKind.i64.wrap ((tt : Int) / 8) = (d : Int)) := by show _ = _; rw [IntKind.wrap_i64]; omega
                have r4 : Hid ((tt : Int).tmod 8 = (m8 : Int)) := by show _ = _; rw [Int.tmod_eq_emod_of_nonneg (by omega)]; omega
                have r5 : Hid (IntKind.i64.wrap (m8 : Int) = (m8 : Int)) := by show _ = _; rw [IntKind.wrap_i64]; omega
                have hdS : (d : Int) < (S : Int) := by omega
                have HR : Hid _ := bit_next HO.out htt hd hm8 HBq.out hb0 hbq hq1 hbit hx0 HX.out hB2
                clear htt hd hm8 HO HBb HBq
                go_wp2
                have q1 := r1.out
                have q2 := r2.out
                have q3 := r3.out
                have q4 := r4.out
                have q5 := r5.out
                go_region_with (go_at_call 37; refine (powers_any m8 _ hm7).mono ?_; rintro e wx ⟨rfl, hwx⟩; obtain rfl := hwx.symm)
                all_goals
                  obtain ⟨R1, R2⟩ := HR.out
                  generalize (wr.setCell ⟨w.heap.size, d, none⟩ (.int .u8 (IntKind.u8.wrap (b + 2 ^ m8)))).drew = W5 at R1 R2 ⊢
                  clear HR q1 q2 q3 q4 q5 hcell hfz
                  go_wp2
                all_goals exact ⟨⟨k + 1, x / 2, by go_num, rfl, by omega, by omega, by omega, half_next hx0 HX.out, R1, R2⟩, by simp [intOf]; omega⟩
              · have hbit0 : x % 2 = 0 := by omega
                have HO : Hid _ := hown2
                have HE : Hid _ := bit_same (N := N) (P := P) hbit0 hx0 HX.out
                clear hown2
                go_wp2
                exact ⟨⟨k + 1, x / 2, by go_num, rfl, by omega, by omega, by omega, half_next hx0 HX.out, by rw [HE.out]; exact HO.out, hB2⟩, by simp [intOf]; omega⟩
            · have hkW : k = W := by omega
              have hlt3' : (W : Int) ≤ (k : Int) := by omega
              have HO : Hid _ := hown2
              have HKW : Hid (k = W) := hkW
              clear hown2 hkW
              go_wp2
              refine ⟨⟨i + 1, by go_num, by omega, ?_, hB2⟩, by simp [intOf]; omega⟩
              have h := HO.out
              rw [HKW.out, Nat.mod_eq_of_lt HF.out] at h
              rw [HK.out]
              exact h
        · have hlt2' : (L : Int) ≤ (i : Int) := by omega
          have hiL : i = L := by omega
          subst hiL
          have HO : Hid _ := hown
          clear hown
          go_wp2
          go_ret2
          have h := HO.out
          rw [List.take_of_length_le (by unfold nats; rw [List.length_map, HZ.out]; exact Nat.le_refl _)] at h
          exact ⟨_, rfl, h, hB⟩
end Go.Proofs.Ytdglobonbhkheaa

/-
  bits.Pack and the reference's Pack answer the same, refusals too: at most 500 numbers.
-/
namespace Go.Proofs.Ytdglobonbhkheaa
open Go.ChangeShapes Go.WideShapes Go.ChangeAt Go.RowKit

def pkNo (wd : Int) (zs : List Int) : Prop := wd < 0 ∨ 64 < wd ∨ wide wd zs = true
/-- in every later world the slice is this text -/
def StrAt (W : World) (v : Value) (T : ByteArray) : Prop := ∀ W', Below W.heap.size W W' → Sem.run Try.prog (convert 27 9 v) W' = .ok (.string T) W'
def ints (l : List Nat) : List Int := l.map fun n : Nat => (n : Int)

theorem c8_ints (l : List Nat) : c8 l = (ints l).map (Value.int .u8) := by simp [c8, ints]
theorem own_below {w w' : World} {B : Nat} {e : TypeId} {s : Nat} {v : Value} {n : Nat} {xs : List Value} (h : w.ownsRow B e s v n xs) (hb : Below w.heap.size w w') : w'.ownsRow B e s v n xs := by
  refine ⟨h.1, ?_⟩
  rcases h.2 with h1 | ⟨g, cap, cur, h1, h2, h3, h4⟩
  · exact .inl h1
  · have hg : g < w.heap.size := by
      rcases Nat.lt_or_ge g w.heap.size with hh | hh
      · exact hh
      · rw [Array.getElem?_eq_none hh] at h3; cases h3
    exact .inr ⟨g, cap, cur, h1, h2, (hb.block g hg).trans h3, h4⟩
theorem str_own {w : World} {B : Nat} {v : Value} {n : Nat} {xs : List Int} (h : w.ownsRow B 5 1 v n (xs.map (Value.int .u8))) :
    Sem.run Try.prog (convert 27 9 v) w = .ok (.string (strOfNums xs)) w := by
  have hl := h.1
  rcases h.2 with ⟨rfl, rfl⟩ | ⟨g, cap, cur, rfl, h2, h3, h4⟩
  · have e : xs = [] := by simpa using hl
    subst e
    exact run_convert_bytes_nil w 27 5 Try.underlying27 Try.underlying5 0 0 9 Try.underlying9
  · refine run_convert_bytes_arg w 27 5 Try.underlying27 Try.underlying5 g 0 n cap xs (by simpa using hl) (fun i hi => ?_) 9 Try.underlying9
    have hx : i < xs.length := by simp at hl; omega
    rw [Nat.zero_add, h.cellAt i (by omega)]
    simp [List.getD, List.getElem?_eq_getElem hx]
theorem strAt_own {w : World} {B : Nat} {v : Value} {n : Nat} {l : List Nat} (h : w.ownsRow B 5 1 v n (c8 l)) : StrAt w v (strOfNums (ints l)) := by
  intro W' hb
  rw [c8_ints] at h
  exact str_own (own_below h hb)
theorem strAt_nil (w : World) : StrAt w (.slice none 0 0) (strOfNums []) := fun W' _ => run_convert_bytes_nil W' 27 5 Try.underlying27 Try.underlying5 0 0 9 Try.underlying9

theorem sze_small {W L : Nat} (hW : W ≤ 64) (hL : L ≤ 500) : sze W L = 0 := by
  have h : L * W ≤ 500 * 64 := Nat.mul_le_mul hL hW
  have h2 : (L : Int) * (W : Int) ≤ 32000 := by rw [← Int.natCast_mul]; omega
  exact (sze_ok (wd := (W : Int)) (ct := (L : Int)) (by omega) (by omega) (by omega)).1

theorem pack_any (ad : Option Addr) (L cap : Nat) (wd : Int) (zs : List Int) (hL : L ≤ 500) (hu : U64 zs) : ∃ (er : Int) (T : ByteArray),
    (∀ w, Src w ad L cap (zs.map (Value.int .u64)) → Calls Try.prog 23 #[.int .i64 wd, .slice ad L cap] w fun e w' => ∃ v, e = .returned (.tuple #[v, .int .i64 er]) ∧ StrAt w' v T ∧ Below w.heap.size w w') ∧
    (∀ w ad' cap', Src w ad' L cap' (zs.map (Value.int .u64)) → Calls Try.prog 55 #[.int .i64 wd, .slice ad' L cap'] w fun e w' => ∃ v, e = .returned (.tuple #[v, .int .i64 er]) ∧ StrAt w' v T ∧ Below w.heap.size w w') := by
  by_cases hno : pkNo wd zs
  · refine ⟨2, strOfNums [], fun w hs => ?_, fun w ad' cap' hs => ?_⟩
    · refine (rpack_no ad L cap wd zs w (by omega) hs hu hno).mono ?_
      rintro e w' ⟨rfl, rfl⟩
      exact ⟨_, rfl, strAt_nil _, Below.refl _ _⟩
    · refine (pack_no ad' L cap' wd zs w (by omega) hs hu hno).mono ?_
      rintro e w' ⟨rfl, hb⟩
      exact ⟨_, rfl, strAt_nil _, hb⟩
  · have h0 : 0 ≤ wd ∧ wd ≤ 64 ∧ wide wd zs = false := by
      unfold pkNo at hno
      refine ⟨by omega, by omega, ?_⟩
      cases hw : wide wd zs
      · rfl
      · exact absurd (Or.inr (Or.inr hw)) hno
    obtain ⟨W, rfl⟩ := Int.eq_ofNat_of_zero_le h0.1
    refine ⟨0, strOfNums (ints (upk 8 ((L * W + 7) / 8) (pk W (nats zs)))), fun w hs => ?_, fun w ad' cap' hs => ?_⟩
    · refine (rpack_yes ad L cap W _ zs w hs hu h0.2.2 (sze_small (by omega) hL) rfl).mono ?_
      rintro e w' ⟨v, rfl, hown, hb⟩
      exact ⟨_, rfl, strAt_own hown, hb⟩
    · refine (pack_yes ad' L cap' W _ zs w hs hu h0.2.2 (sze_small (by omega) hL) rfl).mono ?_
      rintro e w' ⟨v, rfl, hown, hb⟩
      exact ⟨_, rfl, strAt_own hown, hb⟩
end Go.Proofs.Ytdglobonbhkheaa
