/-
  Searching: Write's and sameAhead's closures, slices.IndexFunc and ContainsFunc with them; small functions.
-/
import Derived.Test.YtlajjkpcgokinaaHbM
import Derived.Test.YtlajjkpcgokinaaBPack
import Derived.Deep.QuietTactic
import Derived.BigQuiet
namespace Go.Proofs.Ytlajjkpcgokinaa
set_option linter.unusedVariables false
set_option linter.unusedSimpArgs false
open Go.ChangeShapes Go.WideShapes Go.ChangeAt Go.RowKit

theorem drewN_bel (B : Nat) (w : World) (k : Nat) : Below B w (w.drewN k) := ⟨rfl, rfl, rfl, Nat.le_refl _, fun _ _ => rfl⟩
def I64 (zs : List Int) : Prop := ∀ z ∈ zs, -9223372036854775808 ≤ z ∧ z ≤ 9223372036854775807
/-- the first place at which it holds, or -1 -/
def idxOf (p : Int → Bool) (zs : List Int) : Int := if (zs.takeWhile fun z => !p z).length < zs.length then ((zs.takeWhile fun z => !p z).length : Int) else -1
theorem takeWhile_all {q : Int → Bool} : ∀ zs : List Int, (∀ x ∈ zs, q x = true) → zs.takeWhile q = zs
  | [], _ => rfl
  | a :: l, h => by
    rw [List.takeWhile_cons, if_pos (h a List.mem_cons_self), takeWhile_all l fun x hx => h x (List.mem_cons_of_mem _ hx)]
theorem takeWhile_at {q : Int → Bool} : ∀ (zs : List Int) (j : Nat), j < zs.length → (∀ x ∈ zs.take j, q x = true) → q (zs.getD j 0) = false → (zs.takeWhile q).length = j
  | [], _, h, _, _ => by simp at h
  | a :: l, 0, _, _, h => by
    rw [List.takeWhile_cons, if_neg (by simpa using h)]
    rfl
  | a :: l, j + 1, h, h1, h2 => by
    rw [List.takeWhile_cons, if_pos (h1 a (by simp))]
    simp only [List.length_cons]
    rw [takeWhile_at l j (by simpa using h) (fun x hx => h1 x (by simp [hx])) (by simpa using h2)]
theorem idxOf_at {p : Int → Bool} (zs : List Int) (j : Nat) (hj : j < zs.length) (h : ∀ x ∈ zs.take j, p x = false) (hp : p (zs.getD j 0) = true) : idxOf p zs = (j : Int) := by
  unfold idxOf
  rw [takeWhile_at zs j hj (fun x hx => by rw [h x hx]; rfl) (by rw [hp]; rfl), if_pos hj]
theorem idxOf_none {p : Int → Bool} (zs : List Int) (h : ∀ x ∈ zs, p x = false) : idxOf p zs = -1 := by
  unfold idxOf
  rw [takeWhile_all zs (fun x hx => by rw [h x hx]; rfl), if_neg (by omega)]
theorem all_take_succ {p : Int → Bool} (zs : List Int) (j : Nat) (h : j < zs.length) (h1 : ∀ x ∈ zs.take j, p x = false) (h2 : p (zs.getD j 0) = false) : ∀ x ∈ zs.take (j + 1), p x = false := by
  intro x hx
  rw [List.take_succ_eq_append_getElem h] at hx
  rcases List.mem_append.1 hx with h3 | h3
  · exact h1 x h3
  · simp [List.getD, List.getElem?_eq_getElem h] at h2 h3
    rw [h3]
    exact h2
theorem idxOf_any (p : Int → Bool) : ∀ zs : List Int, decide (0 ≤ idxOf p zs) = zs.any p
  | [] => rfl
  | a :: l => by
    have ih := idxOf_any p l
    unfold idxOf at ih ⊢
    rw [List.takeWhile_cons, List.any_cons]
    cases ha : p a
    · simp only [Bool.not_false, if_true, List.length_cons, Bool.false_or]
      rw [← ih]
      split <;> split <;> simp_all <;> omega
    · simp
/-- how many are the same, by the search -/
theorem sameN_idx {zs : List Int} (h : 1 ≤ zs.length) : (if idxOf (fun z => z != zs.getD 0 0) zs < 0 then (zs.length : Int) else idxOf (fun z => z != zs.getD 0 0) zs) = (sameN zs : Int) := by
  have e : (fun z : Int => !(z != zs.getD 0 0)) = fun x => x == zs.getD 0 0 := by funext z; simp [bne]
  have hle := sameN_le zs
  unfold sameN at hle ⊢
  unfold idxOf
  rw [e]
  split <;> split <;> omega

set_option maxRecDepth 100000 in
set_option maxHeartbeats 1000000 in
theorem wr_call (z wd : Int) (Bw : Nat) (w : World) (h0 : -9223372036854775808 ≤ z) (h1 : z ≤ 9223372036854775807) (hc : w.cell? ⟨Bw, 0, none⟩ = some (.int .i64 wd)) :
    Calls Try.prog 24 #[.int .i64 z, .pointer (some ⟨Bw, 0, none⟩)] w fun e w' => e = .returned (.bool (badN wd z)) ∧ ∃ q, w' = w.drewN q := by
  have hw : IntKind.u64.wrap z = z % 18446744073709551616 := by rw [IntKind.wrap_u64]
  have H1 := fun W => width_any (z % 18446744073709551616) W (by omega) (by omega)
  have H2 : ∀ W, Calls Try.prog 23 #[.int .u64 (IntKind.u64.wrap z)] W fun e w' => e = .returned (.int .i64 (Lib.bitLen (z % 18446744073709551616).toNat)) ∧ w' = W := by
    rw [hw]
    exact H1
  have HB : Hid (badN wd z = decide (wd < Lib.bitLen (z % 18446744073709551616).toNat)) := rfl
  generalize Lib.bitLen (z % 18446744073709551616).toNat = y at *
  clear hw
  go_enter Try.func24, Try.ntmps24
  go_wp2
  go_quiet ((go_at_call 23; first | exact Calls.quiet_of_same (H2 _) | exact Calls.quiet_of_same (H1 _)))
  go_wp2
  go_ret
  exact ⟨by rw [HB.out]; rfl, _, rfl⟩

set_option maxRecDepth 100000 in
set_option maxHeartbeats 1000000 in
theorem sm_call (z : Int) (c0 : Int) (g off L cap : Nat) (hL : 1 ≤ L) (Bw : Nat) (w : World) (h0 : -9223372036854775808 ≤ z) (h1 : z ≤ 9223372036854775807) (hc : w.cell? ⟨Bw, 0, none⟩ = some (.slice (some ⟨g, off, none⟩) L cap)) (hz : w.cell? ⟨g, off, none⟩ = some (.int .i64 c0)) :
    Calls Try.prog 53 #[.int .i64 z, .pointer (some ⟨Bw, 0, none⟩)] w fun e w' => e = .returned (.bool (z != c0)) ∧ ∃ q, w' = w.drewN q := by
  have hL' : (0 : Int) < (L : Int) := by omega
  have hz0 : w.cell? ⟨g, off + 0, none⟩ = some (.int .i64 c0) := hz
  go_enter Try.func53, Try.ntmps53
  go_wp2
  go_ret
  exact ⟨by simp [bne], 0, rfl⟩

set_option maxRecDepth 100000 in
set_option maxHeartbeats 2000000 in
theorem wr_index (ad : Option Addr) (L cap Bw : Nat) (wd : Int) (zs : List Int) (w : World) (hL : L ≤ 1048576) (hs : Src w ad L cap (zs.map (Value.int .i64))) (hu : I64 zs) (hc : w.cell? ⟨Bw, 0, none⟩ = some (.int .i64 wd)) :
    Calls Try.prog 40 #[.slice ad L cap, .func (.func 24) #[] #[.pointer (some ⟨Bw, 0, none⟩)]] w fun e w' => e = .returned (.int .i64 (idxOf (badN wd) zs)) ∧ ∃ q, w' = w.drewN q := by
  have HZ : Hid (zs.length = L) := by show _ = _; simpa using hs.1
  go_enter Try.func40, Try.ntmps40
  go_wp2
  go_loopw [8] (fun c wr => ∃ j q : Nat, c = .int .i64 j ∧ j ≤ L ∧ Hid (∀ x ∈ zs.take j, (badN wd) x = false) ∧ wr = w.drewN q)
    (fun c _ => L - (intOf c).toNat)
  case atStart => exact ⟨0, 0, rfl, Nat.zero_le _, (fun x hx => by simp at hx), rfl⟩
  case round =>
    obtain ⟨j, q, rfl, hj, H, rfl⟩ := hrel
    by_cases hlt : j < L
    · have hlt' : (j : Int) < (L : Int) := by omega
      obtain ⟨g, off, rfl, hcz⟩ := src_atI hs hlt
      have hb := hu _ (getD_mem (zs := zs) (i := j) (by have := HZ.out; omega))
      have HS : Hid ((badN wd) (zs.getD j 0) = false → ∀ x ∈ zs.take (j + 1), (badN wd) x = false) := fun h => all_take_succ zs j (by have := HZ.out; omega) H.out h
      have HA : Hid ((badN wd) (zs.getD j 0) = true → idxOf (badN wd) zs = (j : Int)) := fun h => idxOf_at zs j (by have := HZ.out; omega) H.out h
      generalize zs.getD j 0 = z at *
      have hcz' : (w.drewN q).cell? ⟨g, off + j, none⟩ = some (.int .i64 z) := hcz
      have CC := wr_call z wd Bw (w.drewN q) hb.1 hb.2 hc
      cases hw : (badN wd) z
      · (try dsimp only at hw)
        rw [hw] at CC
        go_wp2_with (go_at_call 24; refine CC.mono ?_; rintro e w1 ⟨rfl, q1, rfl⟩)
        go_roundw
        case rel => exact ⟨j + 1, q + q1, by go_num, by omega, HS.out hw, by simp [World.drewN]; try omega⟩
        case measure => simp [intOf]; omega
      · (try dsimp only at hw)
        rw [hw] at CC
        go_wp2_with (go_at_call 24; refine CC.mono ?_; rintro e w1 ⟨rfl, q1, rfl⟩)
        go_ret
        exact ⟨by rw [HA.out hw]; rfl, q + q1, by simp [World.drewN]; try omega⟩
    · have hlt' : (L : Int) ≤ (j : Int) := by omega
      have HN : Hid (idxOf (badN wd) zs = -1) := idxOf_none zs (by have := H.out; rwa [List.take_of_length_le (by have := HZ.out; omega)] at this)
      go_wp2
      go_ret
      exact ⟨by rw [HN.out]; rfl, q, rfl⟩

set_option maxRecDepth 100000 in
set_option maxHeartbeats 1000000 in
theorem wr_contains (ad : Option Addr) (L cap Bw : Nat) (wd : Int) (zs : List Int) (w : World) (hL : L ≤ 1048576) (hs : Src w ad L cap (zs.map (Value.int .i64))) (hu : I64 zs) (hc : w.cell? ⟨Bw, 0, none⟩ = some (.int .i64 wd)) :
    Calls Try.prog 26 #[.slice ad L cap, .func (.func 24) #[] #[.pointer (some ⟨Bw, 0, none⟩)]] w fun e w' => e = .returned (.bool (zs.any (badN wd))) ∧ ∃ q, w' = w.drewN q := by
  have hi := idxOf_any (badN wd) zs
  have C := wr_index ad L cap Bw wd zs w hL hs hu hc
  generalize idxOf (badN wd) zs = r at *
  have HI : Hid (decide (0 ≤ r) = zs.any (badN wd)) := hi
  clear hi
  go_enter Try.func26, Try.ntmps26
  go_wp2_with (go_at_call 40; refine C.mono ?_; rintro e w1 ⟨rfl, q, rfl⟩)
  go_ret
  exact ⟨by rw [← HI.out]; rfl, q, rfl⟩

set_option maxRecDepth 100000 in
set_option maxHeartbeats 2000000 in
theorem sm_index (ad : Option Addr) (L cap Bw : Nat) (g0 off0 L0 cap0 : Nat) (c0 : Int) (hL0 : 1 ≤ L0) (zs : List Int) (w : World) (hL : L ≤ 1048576) (hs : Src w ad L cap (zs.map (Value.int .i64))) (hu : I64 zs) (hc : w.cell? ⟨Bw, 0, none⟩ = some (.slice (some ⟨g0, off0, none⟩) L0 cap0)) (hz : w.cell? ⟨g0, off0, none⟩ = some (.int .i64 c0)) :
    Calls Try.prog 40 #[.slice ad L cap, .func (.func 53) #[] #[.pointer (some ⟨Bw, 0, none⟩)]] w fun e w' => e = .returned (.int .i64 (idxOf (fun z => z != c0) zs)) ∧ ∃ q, w' = w.drewN q := by
  have HZ : Hid (zs.length = L) := by show _ = _; simpa using hs.1
  go_enter Try.func40, Try.ntmps40
  go_wp2
  go_loopw [8] (fun c wr => ∃ j q : Nat, c = .int .i64 j ∧ j ≤ L ∧ Hid (∀ x ∈ zs.take j, (fun z => z != c0) x = false) ∧ wr = w.drewN q)
    (fun c _ => L - (intOf c).toNat)
  case atStart => exact ⟨0, 0, rfl, Nat.zero_le _, (fun x hx => by simp at hx), rfl⟩
  case round =>
    obtain ⟨j, q, rfl, hj, H, rfl⟩ := hrel
    by_cases hlt : j < L
    · have hlt' : (j : Int) < (L : Int) := by omega
      obtain ⟨g, off, rfl, hcz⟩ := src_atI hs hlt
      have hb := hu _ (getD_mem (zs := zs) (i := j) (by have := HZ.out; omega))
      have HS : Hid ((fun z => z != c0) (zs.getD j 0) = false → ∀ x ∈ zs.take (j + 1), (fun z => z != c0) x = false) := fun h => all_take_succ zs j (by have := HZ.out; omega) H.out h
      have HA : Hid ((fun z => z != c0) (zs.getD j 0) = true → idxOf (fun z => z != c0) zs = (j : Int)) := fun h => idxOf_at zs j (by have := HZ.out; omega) H.out h
      generalize zs.getD j 0 = z at *
      have hcz' : (w.drewN q).cell? ⟨g, off + j, none⟩ = some (.int .i64 z) := hcz
      have CC := sm_call z c0 g0 off0 L0 cap0 hL0 Bw (w.drewN q) hb.1 hb.2 hc hz
      cases hw : (fun z => z != c0) z
      · (try dsimp only at hw)
        rw [hw] at CC
        go_wp2_with (go_at_call 53; refine CC.mono ?_; rintro e w1 ⟨rfl, q1, rfl⟩)
        go_roundw
        case rel => exact ⟨j + 1, q + q1, by go_num, by omega, HS.out hw, by simp [World.drewN]; try omega⟩
        case measure => simp [intOf]; omega
      · (try dsimp only at hw)
        rw [hw] at CC
        go_wp2_with (go_at_call 53; refine CC.mono ?_; rintro e w1 ⟨rfl, q1, rfl⟩)
        go_ret
        exact ⟨by rw [HA.out hw]; rfl, q + q1, by simp [World.drewN]; try omega⟩
    · have hlt' : (L : Int) ≤ (j : Int) := by omega
      have HN : Hid (idxOf (fun z => z != c0) zs = -1) := idxOf_none zs (by have := H.out; rwa [List.take_of_length_le (by have := HZ.out; omega)] at this)
      go_wp2
      go_ret
      exact ⟨by rw [HN.out]; rfl, q, rfl⟩

set_option maxRecDepth 100000 in
set_option maxHeartbeats 1000000 in
theorem same_any (ad : Option Addr) (L cap : Nat) (zs : List Int) (w : World) (h1 : 1 ≤ L) (hL : L ≤ 1048576) (hs : Src w ad L cap (zs.map (Value.int .i64))) (hu : I64 zs) :
    Calls Try.prog 41 #[.slice ad L cap] w fun e w' => e = .returned (.int .i64 (sameN zs)) ∧ Below w.heap.size w w' := by
  have hzl : zs.length = L := by simpa using hs.1
  obtain ⟨g, off, rfl, hcz⟩ := src_atI hs (i := 0) (by omega)
  have B0 := alloc_below w (.cells #[.slice (some ⟨g, off, none⟩) L cap] 23)
  have C := sm_index (some ⟨g, off, none⟩) L cap w.heap.size g off L cap (zs.getD 0 0) h1 zs (w.alloc (.cells #[.slice (some ⟨g, off, none⟩) L cap] 23)) hL (hs.later B0) hu (by simp) (cell_later B0 hcz)
  have HI : Hid _ := sameN_idx (zs := zs) (by omega)
  rw [hzl] at HI
  have hr : idxOf (fun z => z != zs.getD 0 0) zs ≤ (L : Int) := by
    unfold idxOf
    split <;> omega
  generalize idxOf (fun z => z != zs.getD 0 0) zs = r at *
  clear hcz hs hu
  by_cases hr0 : r < 0
  · have HE : Hid ((sameN zs : Int) = (L : Int)) := by show _ = _; rw [← HI.out, if_pos hr0]
    go_enter Try.func41, Try.ntmps41
    go_wp2_with (go_at_call 40; refine C.mono ?_; rintro e w1 ⟨rfl, q, rfl⟩)
    go_ret
    exact ⟨by rw [HE.out]; rfl, B0.trans (drewN_bel _ _ _)⟩
  · have HE : Hid ((sameN zs : Int) = r) := by show _ = _; rw [← HI.out, if_neg hr0]
    have hr1 : 0 ≤ r := by omega
    go_enter Try.func41, Try.ntmps41
    go_wp2_with (go_at_call 40; refine C.mono ?_; rintro e w1 ⟨rfl, q, rfl⟩)
    go_ret
    exact ⟨by rw [HE.out]; rfl, B0.trans (drewN_bel _ _ _)⟩

set_option maxRecDepth 100000 in
theorem isw_any (wd : Int) (w : World) : Calls Try.prog 25 #[.int .i64 wd] w fun e w' => e = .returned (.bool (decide (0 ≤ wd ∧ wd ≤ 32))) ∧ w' = w := by
  by_cases c1 : 0 ≤ wd
  · by_cases c2 : wd ≤ 32
    · go_enter Try.func25, Try.ntmps25
      go_wp2
      go_ret
      exact ⟨by simp [c1, c2] <;> omega, rfl⟩
    · go_enter Try.func25, Try.ntmps25
      go_wp2
      go_ret
      exact ⟨by simp [c1, c2] <;> omega, rfl⟩
  · go_enter Try.func25, Try.ntmps25
    go_wp2
    go_ret
    exact ⟨by simp [c1] <;> omega, rfl⟩
set_option maxRecDepth 100000 in
theorem bytesOf_any (W : Nat) (hW : W ≤ 32) (w : World) : Calls Try.prog 44 #[.int .i64 W] w fun e w' => e = .returned (.int .i64 (((W + 7) / 8 : Nat) : Int)) ∧ w' = w := by
  have h : (W : Int) ≤ 32 := by omega
  go_enter Try.func44, Try.ntmps44
  go_wp2
  go_ret
  exact ⟨by first | rfl | (simp; omega) | simp, rfl⟩
set_option maxRecDepth 100000 in
theorem groupsOf_any (n : Nat) (hn : n ≤ 1048576) (w : World) : Calls Try.prog 54 #[.int .i64 n] w fun e w' => e = .returned (.int .i64 (grp n : Nat)) ∧ w' = w := by
  unfold grp
  have h : (n : Int) ≤ 1048576 := by omega
  go_enter Try.func54, Try.ntmps54
  go_wp2
  go_ret
  exact ⟨by first | rfl | (simp; omega) | simp, rfl⟩
end Go.Proofs.Ytlajjkpcgokinaa
