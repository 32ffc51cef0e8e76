/-
  What the reference's Bit and Unpack answer.
-/
import Derived.Test.YtdglobonbhkheaaJ5
import Derived.Maps.AppendAt
namespace Go.Proofs.Ytdglobonbhkheaa
open Go.ChangeShapes Go.WideShapes Go.ChangeAt Go.RowKit

/-- the bytes of the number B can be read off the slice -/
def NumAt (w : World) (ad : Option Addr) (len B : Nat) : Prop :=
  ∀ j, j < len → ∃ g off, ad = some ⟨g, off, none⟩ ∧ w.cell? ⟨g, off + j, none⟩ = some (.int .u8 ((B / 2 ^ (8 * j) % 256 : Nat) : Int))
theorem NumAt.later {w w' : World} {ad : Option Addr} {len B : Nat} (h : NumAt w ad len B) (hb : Below w.heap.size w w') : NumAt w' ad len B := by
  intro j hj
  obtain ⟨g, off, e, hc⟩ := h j hj
  exact ⟨g, off, e, cell_later hb hc⟩

theorem byte_shift (B j k : Nat) (hk : k < 8) : B / 2 ^ (8 * j) % 256 / 2 ^ k % 2 = B / 2 ^ (8 * j + k) % 2 := by
  have e2 : 256 = 2 ^ k * 2 ^ (8 - k) := by rw [← Nat.pow_add, show k + (8 - k) = 8 from by omega]
  rw [e2, Nat.mod_mul_right_div_self, bit_shift]
  exact Nat.mod_mod_of_dvd _ ⟨2 ^ (8 - k - 1), by rw [← Nat.pow_succ', show (8 - k - 1).succ = 8 - k from by omega]⟩

set_option maxRecDepth 100000 in
set_option maxHeartbeats 1000000 in
theorem rbit_any (ad : Option Addr) (len cap B i : Nat) (w : World) (hlen : len ≤ 1048576) (hN : NumAt w ad len B) (hi : i < 8 * len) :
    Calls Try.prog 39 #[.slice ad len cap, .int .i64 i] w fun e w' => e = .returned (.int .u64 ((B / 2 ^ i % 2 : Nat) : Int)) ∧ w' = w := by
  obtain ⟨g, off, rfl, hc⟩ := hN (i / 8) (by omega)
  obtain ⟨d, hd⟩ : ∃ d : Nat, d = i / 8 := ⟨_, rfl⟩
  obtain ⟨r, hr⟩ : ∃ r : Nat, r = i % 8 := ⟨_, rfl⟩
  have HE : Hid (B / 2 ^ (8 * d) % 256 / 2 ^ r % 2 = B / 2 ^ i % 2) := by
    show _ = _
    rw [byte_shift B d r (by omega), show 8 * d + r = i from by omega]
  rw [← hd] at hc
  have hb : B / 2 ^ (8 * d) % 256 < 256 := Nat.mod_lt _ (by omega)
  generalize B / 2 ^ (8 * d) % 256 = q at *
  have h1 : (i : Int) / 8 = (d : Int) := by omega
  have h2 : (i : Int) % 8 = (r : Int) := by omega
  have hdl : (d : Int) < (len : Int) := by omega
  have hr8 : r < 8 := by omega
  clear hd hr
  go_enter Try.func39, Try.ntmps39
  go_wp2
  go_loop [5, 6] (fun xv c => ∃ (k : Nat) (x : Nat), k ≤ r ∧ c = .int .i64 k ∧ xv = .int .u8 x ∧ x ≤ 255 ∧ Hid (x = q / 2 ^ k)) (fun _ c => r - (intOf c).toNat)
  case atStart => exact ⟨0, q, Nat.zero_le _, rfl, rfl, by omega, by simp [Hid]⟩
  case round =>
    obtain ⟨k, x, hk, rfl, rfl, hx, H⟩ := hrel
    by_cases hlt : k < r
    · have hlt' : (k : Int) < (r : Int) := by omega
      go_wp2
      exact ⟨⟨k + 1, x / 2, by omega, by go_num, congrArg (Value.int .u8) (by omega), by omega, by show _ = _; rw [Nat.pow_succ, ← Nat.div_div_eq_div_mul, ← H.out]⟩, by simp [intOf]; omega⟩
    · have hlt' : (r : Int) ≤ (k : Int) := by omega
      have HK : Hid (k = r) := by show _ = _; omega
      go_wp2
      go_ret
      refine ⟨congrArg Ending.returned (congrArg (Value.int .u64) ?_), rfl⟩
      have e : x % 2 = B / 2 ^ i % 2 := by rw [← HE.out, ← HK.out, ← H.out]
      have e2 : ((x % 2 : Nat) : Int) = ((B / 2 ^ i % 2 : Nat) : Int) := by rw [e]
      simpa using e2
theorem high_bits {B T : Nat} : ∀ (k : Nat), B < 2 ^ (T + k) → (∀ i, T ≤ i → i < T + k → B / 2 ^ i % 2 = 0) → B < 2 ^ T
  | 0, h, _ => h
  | k + 1, h, hz => by
    refine high_bits k ?_ (fun i h1 h2 => hz i h1 (by omega))
    have h0 := hz (T + k) (by omega) (by omega)
    have h1 : B / 2 ^ (T + k) < 2 := by
      rw [Nat.div_lt_iff_lt_mul (Nat.two_pow_pos _), ← Nat.pow_succ']
      exact h
    have h2 : B / 2 ^ (T + k) = 0 := by
      generalize B / 2 ^ (T + k) = q at h0 h1
      omega
    exact (Nat.div_eq_zero_iff_lt (Nat.two_pow_pos _)).1 h2
theorem low_bits {B T i : Nat} (h : B < 2 ^ T) (hi : T ≤ i) : B / 2 ^ i % 2 = 0 := by
  rw [Nat.div_eq_of_lt (Nat.lt_of_lt_of_le h (Nat.pow_le_pow_right (by omega) hi))]

set_option maxRecDepth 100000 in
set_option maxHeartbeats 2000000 in
theorem runpack_size (ad : Option Addr) (len cap : Nat) (wd ct : Int) (w : World) (h1 : -9223372036854775808 ≤ wd) (h2 : wd ≤ 9223372036854775807) (h3 : -9223372036854775808 ≤ ct) (h4 : ct ≤ 9223372036854775807) (hno : sze wd ct ≠ 0) :
    Calls Try.prog 25 #[.slice ad len cap, .int .i64 wd, .int .i64 ct] w fun e w' => e = .returned (.tuple #[.slice none 0 0, .int .i64 (sze wd ct)]) ∧ w' = w := by
  have hz : szv wd ct = 0 := by unfold szv; rw [if_neg hno]
  have HC := rsize_any wd ct w h1 h2 h3 h4
  rw [hz] at HC
  have hne : (sze wd ct == 0) = false := by simpa using hno
  generalize sze wd ct = s at *
  go_enter Try.func25, Try.ntmps25
  go_wp2_with (go_at_call 36; refine HC.mono ?_; rintro e wx ⟨rfl, hwx⟩; obtain rfl := hwx.symm)
  go_ret2
  exact ⟨rfl, rfl⟩
set_option maxRecDepth 100000 in
set_option maxHeartbeats 2000000 in
theorem runpack_short (ad : Option Addr) (len cap W c S : Nat) (w : World) (hsz : sze W c = 0) (hS : S = (c * W + 7) / 8) (hno : len < S) :
    Calls Try.prog 25 #[.slice ad len cap, .int .i64 W, .int .i64 c] w fun e w' => e = .returned (.tuple #[.slice none 0 0, .int .i64 6]) ∧ w' = w := by
  have HC := rsize_ok hsz hS w
  have hno' : (len : Int) < (S : Int) := by omega
  clear hsz hS
  go_enter Try.func25, Try.ntmps25
  go_wp2_with (go_at_call 36; refine HC.mono ?_; rintro e wx ⟨rfl, hwx⟩; obtain rfl := hwx.symm)
  go_ret2
  exact ⟨rfl, rfl⟩
set_option maxRecDepth 100000 in
set_option maxHeartbeats 2000000 in
theorem runpack_extra (ad : Option Addr) (len cap W c S : Nat) (w : World) (hsz : sze W c = 0) (hS : S = (c * W + 7) / 8) (hno : S < len) :
    Calls Try.prog 25 #[.slice ad len cap, .int .i64 W, .int .i64 c] w fun e w' => e = .returned (.tuple #[.slice none 0 0, .int .i64 7]) ∧ w' = w := by
  have HC := rsize_ok hsz hS w
  have hno' : (S : Int) < (len : Int) := by omega
  clear hsz hS
  go_enter Try.func25, Try.ntmps25
  go_wp2_with (go_at_call 36; refine HC.mono ?_; rintro e wx ⟨rfl, hwx⟩; obtain rfl := hwx.symm)
  go_ret2
  exact ⟨rfl, rfl⟩
def c64 (l : List Nat) : List Value := l.map fun b : Nat => Value.int .u64 (b : Int)
theorem Try.info65 : (Try.prog.info? 65).map (fun i => (i.zero, i.size, i.bytes)) = some (some (.int .u64 0), 1, 8) := by kernel_rfl

set_option maxRecDepth 100000 in
set_option maxHeartbeats 4000000 in
theorem runpack_form (ad : Option Addr) (len cap W c B : Nat) (w : World) (hsz : sze W c = 0) (hS : len = (c * W + 7) / 8) (hN : NumAt w ad len B) (hBl : B < 2 ^ (8 * len)) (hno : ¬ B < 2 ^ (W * c)) :
    Calls Try.prog 25 #[.slice ad len cap, .int .i64 W, .int .i64 c] w fun e w' => e = .returned (.tuple #[.slice none 0 0, .int .i64 8]) ∧ w' = w := by
  obtain ⟨hW, hc, hSb, _⟩ := size_le hsz
  rw [← hS] at hSb
  have HC := rsize_ok hsz hS w
  obtain ⟨P, hP⟩ : ∃ P : Nat, P = c * W := ⟨_, rfl⟩
  have hP1 : (c : Int) * (W : Int) = (P : Int) := by rw [hP]; simp
  have hPb : P ≤ 67108864 := by rw [hP]; exact Nat.mul_le_mul hc hW
  have hPl : P ≤ 8 * len := by rw [← hP] at hS; omega
  have HNo : Hid (¬ B < 2 ^ P) := by rw [hP, Nat.mul_comm]; exact hno
  have HBl : Hid (B < 2 ^ (8 * len)) := hBl
  clear hsz hS hP hno hBl
  go_enter Try.func25, Try.ntmps25
  go_wp2_with (go_at_call 36; refine HC.mono ?_; rintro e wx ⟨rfl, hwx⟩; obtain rfl := hwx.symm)
  go_loop [10] (fun cv => ∃ i : Nat, cv = .int .i64 i ∧ P ≤ i ∧ i ≤ 8 * len ∧ Hid (∀ k, P ≤ k → k < i → B / 2 ^ k % 2 = 0)) (fun cv => 8 * len - (intOf cv).toNat)
  case atStart => exact ⟨P, rfl, Nat.le_refl _, hPl, fun k h1 h2 => by omega⟩
  case round =>
    obtain ⟨i, rfl, hi1, hi2, H⟩ := hrel
    by_cases hlt : i < 8 * len
    · have hlt' : (i : Int) < 8 * (len : Int) := by omega
      have hbt : B / 2 ^ i % 2 < 2 := Nat.mod_lt _ (by omega)
      have R := rbit_any ad len cap B i w hSb hN hlt
      by_cases hb : B / 2 ^ i % 2 = 0
      · rw [hb] at R
        have HB : Hid _ := hb
        clear hb hbt
        go_wp2_with (go_at_call 39; refine R.mono ?_; rintro e wx ⟨rfl, hwx⟩; obtain rfl := hwx.symm)
        exact ⟨⟨i + 1, by go_num, by omega, by omega, fun k h1 h2 => by rcases Nat.lt_or_ge k i with h | h; exact H.out k h1 h; rw [show k = i from by omega]; exact HB.out⟩, by simp [intOf]; omega⟩
      · have hb1 : B / 2 ^ i % 2 = 1 := by omega
        rw [hb1] at R
        clear hb hbt hb1
        go_wp2_with (go_at_call 39; refine R.mono ?_; rintro e wx ⟨rfl, hwx⟩; obtain rfl := hwx.symm)
        go_ret2
        exact ⟨rfl, rfl⟩
    · exfalso
      exact HNo.out (high_bits (8 * len - P) (by rw [show P + (8 * len - P) = 8 * len from by omega]; exact HBl.out) (fun k h1 h2 => H.out k h1 (by omega)))
theorem rbit_at (ad : Option Addr) (len cap B i : Nat) (I : Int) (w : World) (hI : I = (i : Int)) (hlen : len ≤ 1048576) (hN : NumAt w ad len B) (hi : i < 8 * len) :
    Calls Try.prog 39 #[.slice ad len cap, .int .i64 I] w fun e w' => e = .returned (.int .u64 ((B / 2 ^ i % 2 : Nat) : Int)) ∧ w' = w := by
  subst hI
  exact rbit_any ad len cap B i w hlen hN hi
theorem mod_two (n m : Nat) : n % 2 ^ (m + 1) = 2 * (n / 2 % 2 ^ m) + n % 2 := by
  rw [Nat.pow_succ', Nat.mod_mul]
  omega
theorem run_step {W w64 : Nat} {v v' : Value} {i : Nat} {x : Nat} {w wr w1 : World} (hx : x = w64 / 2 ^ (W * i) % 2 ^ W) (hs : w.heap.size ≤ wr.heap.size)
    (hown : wr.ownsRow w.heap.size 65 1 v i (c64 (upk W i w64))) (hnx : Below w.heap.size w wr)
    (hown' : w1.ownsRow w.heap.size 65 1 v' (i + 1) (c64 (upk W i w64) ++ [.int .u64 (x : Int)])) (hgrow : (wr.alloc (.cells #[.int .u64 (x : Int)] 65)).grownBy w1 v.ownBlock) :
    w1.ownsRow w.heap.size 65 1 v' (i + 1) (c64 (upk W (i + 1) w64)) ∧ Below w.heap.size w w1 := by
  refine ⟨?_, (hnx.alloc hs _).grown hgrow (by simp; omega) (fun k e => (hown.lt k e).1)⟩
  rw [upk_snoc, ← hx]
  simpa [c64] using hown'

theorem unp_step {B Q m W : Nat} {x : Int} (hW : W ≤ 64) (hm : m + 1 ≤ W) (hx : x = ((B / 2 ^ (Q + (m + 1)) % 2 ^ (W - (m + 1)) : Nat) : Int)) :
    0 ≤ x ∧ x ≤ 9223372036854775807 ∧ 2 * x + ((B / 2 ^ (Q + m) % 2 : Nat) : Int) = ((B / 2 ^ (Q + m) % 2 ^ (W - m) : Nat) : Int) ∧ 0 ≤ ((B / 2 ^ (Q + m) % 2 : Nat) : Int) ∧ ((B / 2 ^ (Q + m) % 2 : Nat) : Int) ≤ 1 := by
  have h2 : B / 2 ^ (Q + (m + 1)) % 2 ^ (W - (m + 1)) < 2 ^ (W - (m + 1)) := Nat.mod_lt _ (Nat.two_pow_pos _)
  have h3 : 2 ^ (W - (m + 1)) ≤ 2 ^ 63 := Nat.pow_le_pow_right (by omega) (by omega)
  have h4 : B / 2 ^ (Q + m) % 2 < 2 := Nat.mod_lt _ (by omega)
  have e : B / 2 ^ (Q + m) % 2 ^ (W - m) = 2 * (B / 2 ^ (Q + (m + 1)) % 2 ^ (W - (m + 1))) + B / 2 ^ (Q + m) % 2 := by
    rw [show W - m = (W - (m + 1)) + 1 from by omega, mod_two, Nat.div_div_eq_div_mul, ← Nat.pow_succ]
    rfl
  rw [e]
  generalize B / 2 ^ (Q + (m + 1)) % 2 ^ (W - (m + 1)) = y at *
  generalize B / 2 ^ (Q + m) % 2 = b at *
  omega

set_option maxRecDepth 100000 in
set_option maxHeartbeats 4000000 in
theorem runpack_ok (ad : Option Addr) (len cap W c B : Nat) (w : World) (hsz : sze W c = 0) (hS : len = (c * W + 7) / 8) (hN : NumAt w ad len B) (hok : B < 2 ^ (W * c)) :
    Calls Try.prog 25 #[.slice ad len cap, .int .i64 W, .int .i64 c] w fun e w' => ∃ v, e = .returned (.tuple #[v, .int .i64 0]) ∧ w'.ownsRow w.heap.size 65 1 v c (c64 (upk W c B)) ∧ Below w.heap.size w w' := by
  obtain ⟨hW, hc, hSb, _⟩ := size_le hsz
  rw [← hS] at hSb
  have HC := rsize_ok hsz hS w
  obtain ⟨i0, hi, hz0, hz1, hz2⟩ := info_parts Try.info65
  obtain ⟨P, hP⟩ : ∃ P : Nat, P = c * W := ⟨_, rfl⟩
  have hP1 : (c : Int) * (W : Int) = (P : Int) := by rw [hP]; simp
  have hPb : P ≤ 67108864 := by rw [hP]; exact Nat.mul_le_mul hc hW
  have hPl : P ≤ 8 * len := by rw [← hP] at hS; omega
  have HP : Hid (P = W * c) := by show _ = _; rw [hP, Nat.mul_comm]
  have HOk : Hid (B < 2 ^ P) := by rw [hP, Nat.mul_comm]; exact hok
  clear hsz hS hP hok
  go_enter Try.func25, Try.ntmps25
  go_wp2_with (go_at_call 36; refine HC.mono ?_; rintro e wx ⟨rfl, hwx⟩; obtain rfl := hwx.symm)
  go_loop [10] (fun cv => ∃ i : Nat, cv = .int .i64 i ∧ P ≤ i ∧ i ≤ 8 * len) (fun cv => 8 * len - (intOf cv).toNat)
  case atStart => exact ⟨P, rfl, Nat.le_refl _, hPl⟩
  case round =>
    obtain ⟨i, rfl, hi1, hi2⟩ := hrel
    by_cases hlt : i < 8 * len
    · have hlt' : (i : Int) < 8 * (len : Int) := by omega
      have R := rbit_any ad len cap B i w hSb hN hlt
      rw [low_bits HOk.out hi1] at R
      go_wp2_with (go_at_call 39; refine R.mono ?_; rintro e wx ⟨rfl, hwx⟩; obtain rfl := hwx.symm)
      exact ⟨⟨i + 1, by go_num, by omega, by omega⟩, by simp [intOf]; omega⟩
    · have hlt' : 8 * (len : Int) ≤ (i : Int) := by omega
      clear hi1 hi2 HC
      go_wp2
      clear hP1
      go_loopw [11, 12, 13, 14] (fun v cv _ _ wr => ∃ i : Nat, cv = .int .i64 i ∧ i ≤ c ∧ wr.ownsRow w.heap.size 65 1 v i (c64 (upk W i B)) ∧ Below w.heap.size w wr)
        (fun _ cv _ _ _ => c - (intOf cv).toNat)
      case atStart => exact ⟨0, rfl, Nat.zero_le _, World.ownsRow_nil _ _ _ _, Below.refl _ _⟩
      case round =>
        obtain ⟨i, rfl, hic, hown, hB⟩ := hrel
        by_cases hlt2 : i < c
        · have hlt2' : (i : Int) < (c : Int) := by omega
          obtain ⟨Q, hQ⟩ : ∃ Q : Nat, Q = i * W := ⟨_, rfl⟩
          have hQ1 : (i : Int) * (W : Int) = (Q : Int) := by rw [hQ]; simp
          have hQW : Q + W ≤ P := by
            have h1 := HP.out
            have h2 : (i + 1) * W ≤ c * W := Nat.mul_le_mul_right _ hlt2
            rw [Nat.add_mul, Nat.one_mul, ← hQ, Nat.mul_comm c] at h2
            omega
          have HQ : Hid (Q = W * i) := by show _ = _; rw [hQ, Nat.mul_comm]
          clear hQ
          have hN2 := hN.later hB
          go_wp2
          go_loop [13, 14] (fun xv kv => ∃ (j : Nat) (x : Int), kv = .int .i64 ((j : Int) - 1) ∧ xv = .int .u64 x ∧ j ≤ W ∧ Hid (x = ((B / 2 ^ (Q + j) % 2 ^ (W - j) : Nat) : Int))) (fun _ kv => (intOf kv + 1).toNat)
          case atStart => exact ⟨W, 0, rfl, rfl, Nat.le_refl _, by show _ = _; simp [Nat.mod_one]⟩
          case round =>
            obtain ⟨j, x, rfl, rfl, hj, HX⟩ := hrel
            by_cases hj1 : 1 ≤ j
            · obtain ⟨m, rfl⟩ : ∃ m, j = m + 1 := ⟨j - 1, by omega⟩
              have hR := fun I hI => rbit_at ad len cap B (Q + m) I wr hI hSb hN2 (by omega)
              obtain ⟨hx0, hx1, HS, hb0, hb1⟩ := unp_step hW hj HX.out
              have HSh : Hid _ := HS
              have HRh : Hid _ := hR
              clear HS hR
              generalize ((B / 2 ^ (Q + m) % 2 : Nat) : Int) = b at *
              have hm0 : (0 : Int) ≤ (m : Int) := by omega
              go_wp2_with (go_at_call 39; refine (HRh.out _ (by omega)).mono ?_; rintro e wx ⟨rfl, hwx⟩; obtain rfl := hwx.symm)
              exact ⟨⟨m, _, rfl, rfl, by omega, HSh.out⟩, by simp [intOf]⟩
            · have hneg : (j : Int) - 1 < 0 := by omega
              have HJ : Hid (j = 0) := by show _ = _; omega
              have hX := HX.out
              rw [HJ.out, Nat.add_zero, Nat.sub_zero, HQ.out] at hX
              have HXh : Hid _ := hX
              clear hX hj1 HX
              obtain ⟨y, hy⟩ : ∃ y : Nat, y = B / 2 ^ (W * i) % 2 ^ W := ⟨_, rfl⟩
              have hxy : x = (y : Int) := by rw [hy]; exact HXh.out
              subst hxy
              have HY : Hid _ := hy
              clear hy HXh
              go_wp2_with (at_builtin; refine wpList_append_own _ rfl _ _ 64 rfl w.heap.size 65 i0 (.int .u64 0) 1 8 Try.underlying64 hi hz0 hz1 hz2 rfl (by decide) _ _ _ rfl (hown.alloc _) ⟨wr.heap.size, 0, none⟩ 1 1 [.int .u64 (y : Int)] rfl rfl (cell_one_new _ _ _) (by simp [Value.oneCell']) (by unfold maxLen; omega) (by omega) (by have := hB.size; simp; omega) ?_; intro v' w1 hown' hgrow _)
              have R := run_step HY.out hB.size hown hB hown' hgrow
              clear hown' hgrow hown
              go_wp2
              exact ⟨⟨i + 1, by go_num, by omega, R.1, R.2⟩, by simp [intOf]; omega⟩
        · have hlt2' : (c : Int) ≤ (i : Int) := by omega
          have hic2 : i = c := by omega
          subst hic2
          go_wp2
          go_ret2
          exact ⟨_, rfl, hown, hB⟩
end Go.Proofs.Ytdglobonbhkheaa
