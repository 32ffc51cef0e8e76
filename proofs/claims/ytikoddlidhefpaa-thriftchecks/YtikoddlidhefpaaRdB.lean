/-
  The reader's numbers.
-/
import Derived.Test.YtikoddlidhefpaaRdA
namespace Go.Proofs.Ytikoddlidhefpaa
set_option linter.unusedVariables false
open Go.ChangeShapes Go.WideShapes Go.ChangeAt Go.RowKit Go.Deep

theorem mustGoOn_70 (w : World) (n least most : Nat) (h1 : n ≤ most) (h2 : (most : Int) ≤ 18446744073709551615) :
    Calls Try.prog 102 #[.int .u64 n, .int .i64 70, .int .u64 least, .int .u64 most] w fun e w' => w' = w ∧ e = gives false := by
  obtain ⟨D, hD⟩ : ∃ D : Nat, (most : Int) - n = D := ⟨most - n, by omega⟩
  have hD2 : (D : Int) ≤ 18446744073709551615 := by omega
  go_enter Try.func102, Try.ntmps102
  go_wp2
  all_goals exact ⟨rfl, rfl, rfl⟩
set_option maxRecDepth 10000 in
set_option maxHeartbeats 1000000 in
theorem mustGoOn_lo (w : World) (n s least most : Nat) (h1 : n ≤ most) (h2 : (most : Int) ≤ 18446744073709551615) (h3 : s < 64) (h4 : (least : Int) ≤ 18446744073709551615) :
    Calls Try.prog 102 #[.int .u64 n, .int .i64 s, .int .u64 least, .int .u64 most] w fun e w' => w' = w ∧ e = if (most - n) / 2 ^ s = 0 ∨ n + (most - n) / 2 ^ s * 2 ^ s < least then gives false else .returned (.tuple #[]) := by
  obtain ⟨D, hD⟩ : ∃ D : Nat, D = most - n := ⟨_, rfl⟩
  have x0 : (most : Int) - n = D := by omega
  obtain ⟨G, hG⟩ : ∃ G : Nat, G = D / 2 ^ s := ⟨_, rfl⟩
  have hm : min s 64 = s := by omega
  have x1 : (D : Int) / 2 ^ s = (G : Int) := by rw [hG]; simp
  obtain ⟨H, hH⟩ : ∃ H : Nat, H = G * 2 ^ s := ⟨_, rfl⟩
  have hHD : H ≤ D := by rw [hH, hG]; exact Nat.div_mul_le_self _ _
  rw [← hD, ← hG, ← hH]
  have hs' : (s : Int) < 64 := by omega
  clear hD hG
  by_cases hz : G = 0
  · subst hz
    rw [if_pos (.inl rfl)]
    go_enter Try.func102, Try.ntmps102
    go_wp2
    exact ⟨rfl, rfl, rfl⟩
  have hz' : ¬ (G : Int) = 0 := by omega
  have y1 : IntKind.u64.wrap ((G : Int) * 2 ^ s) = (H : Int) := by
    have e : (G : Int) * 2 ^ s = ((G * 2 ^ s : Nat) : Int) := by simp
    rw [e, ← hH, IntKind.wrap_u64]
    omega
  obtain ⟨N, hN⟩ : ∃ N : Nat, N = n + H := ⟨_, rfl⟩
  have y2 : IntKind.u64.wrap ((n : Int) + (H : Int)) = (N : Int) := by rw [IntKind.wrap_u64]; omega
  rw [← hN]
  clear hH hN
  by_cases hl : N < least
  · rw [if_pos (.inr hl)]
    have hl' : (N : Int) < (least : Int) := by omega
    go_enter Try.func102, Try.ntmps102
    go_wp2
    exact ⟨rfl, rfl, rfl⟩
  · rw [if_neg (by omega)]
    have hl' : (least : Int) ≤ (N : Int) := by omega
    go_enter Try.func102, Try.ntmps102
    go_wp2
    go_end0
    exact ⟨rfl, rfl⟩

/-- a number, from a least one to a greatest: each byte is such that one may still come of it -/
def rNumF (least most : Nat) : Nat → Nat → Nat → List Nat → Except Bool (Nat × List Nat)
  | _, _, _, [] => .error true
  | 0, _, _, _ :: _ => .error false
  | f + 1, n, s, c :: r =>
    if (most - n) / 2 ^ s < c % 128 then .error false
    else if 128 ≤ c then
      if (most - (n + c % 128 * 2 ^ s)) / 2 ^ (s + 7) = 0 ∨ n + c % 128 * 2 ^ s + (most - (n + c % 128 * 2 ^ s)) / 2 ^ (s + 7) * 2 ^ (s + 7) < least then .error false
      else rNumF least most f (n + c % 128 * 2 ^ s) (s + 7) r
    else if n + c % 128 * 2 ^ s < least ∨ (c % 128 = 0 ∧ 0 < s) then .error false else .ok (n + c % 128 * 2 ^ s, r)
def rNum (least most : Nat) (bs : List Nat) : Except Bool (Nat × List Nat) := rNumF least most 10 0 0 bs

theorem andNot128 (c : Nat) (h : c < 256) : bits .andNot .u8 (c : Int) 128 = ((c % 128 : Nat) : Int) := by
  have : ∀ m : Fin 256, bits .andNot .u8 ((m.val : Nat) : Int) 128 = ((m.val % 128 : Nat) : Int) := by decide +kernel
  exact this ⟨c, h⟩
theorem or_add (n d s : Nat) (hn : n < 2 ^ s) (h : n + d * 2 ^ s < 18446744073709551616) : bits .or .u64 (n : Int) ((d * 2 ^ s : Nat) : Int) = ((n + d * 2 ^ s : Nat) : Int) := by
  have h1 := u64_or_nat n (d * 2 ^ s) (by omega) (by omega)
  rw [h1]
  have h2 := Nat.two_pow_add_eq_or_of_lt hn d
  rw [Nat.mul_comm d, Nat.or_comm, ← h2, Nat.add_comm]

theorem takes_of {α : Type} {f : FuncId} {args : Array Value} {w0 w : World} {R m : Nat} {room : Int} {res : Except Bool (α × List Nat)} {val : α → Value}
    (H : ∀ Q : Ending → World → Prop, (∀ a rest w', res = .ok (a, rest) → RF R w w' → Rd w0 w' R m rest room → Q (.returned (val a)) w') → (∀ s w', res = .error s → RF R w w' → Q (gives s) w') → Calls Try.prog f args w Q) : Takes f args w0 w R m room res val := by
  unfold Takes
  refine H _ ?_ ?_
  · intro a rest w' e h1 h2
    subst e
    exact ⟨h1, rfl, h2⟩
  · intro s w' e h1
    subst e
    exact ⟨h1, rfl⟩
theorem Takes.ok {α : Type} {f : FuncId} {args : Array Value} {w0 w : World} {R m : Nat} {room : Int} {res : Except Bool (α × List Nat)} {val : α → Value} {a : α} {rest : List Nat} (h : Takes f args w0 w R m room res val) (e : res = .ok (a, rest)) :
    Calls Try.prog f args w fun e w' => e = .returned (val a) ∧ Rd w0 w' R m rest room ∧ RF R w w' := by
  subst e
  exact Calls.mono h fun e w' ⟨h1, h2, h3⟩ => ⟨h2, h3, h1⟩
theorem Takes.no {α : Type} {f : FuncId} {args : Array Value} {w0 w : World} {R m : Nat} {room : Int} {res : Except Bool (α × List Nat)} {val : α → Value} {s : Bool} (h : Takes f args w0 w R m room res val) (e : res = .error s) :
    Calls Try.prog f args w fun e w' => e = gives s ∧ RF R w w' := by
  subst e
  exact Calls.mono h fun e w' ⟨h1, h2⟩ => ⟨h2, h1⟩

set_option maxRecDepth 100000 in
set_option maxHeartbeats 1000000 in
theorem takeNumber_any (w0 w : World) (R m : Nat) (bs : List Nat) (room : Int) (least most : Nat) (h1 : least ≤ 18446744073709551615) (h2 : most ≤ 18446744073709551615) (h : Rd w0 w R m bs room) : Takes 94 #[.pointer (some ⟨R, 0, none⟩), .int .u64 least, .int .u64 most] w0 w R m room (rNum least most bs) (fun n : Nat => .int .u64 n) := by
  refine takes_of fun Q QOK QNO => ?_
  obtain ⟨res, HR⟩ : ∃ r, Hid (rNum least most bs = r) := ⟨_, rfl⟩
  rw [HR.out] at QOK QNO
  have h1' : (least : Int) ≤ 18446744073709551615 := by omega
  have h2' : (most : Int) ≤ 18446744073709551615 := by omega
  go_enter Try.func94, Try.ntmps94
  go_wp2_with fail
  go_loopw [7, 8] (fun nv sv wr => ∃ (n j : Nat) (l : List Nat), nv = .int .u64 n ∧ sv = .int .i64 ((7 * j : Nat) : Int) ∧ j ≤ 9 ∧ Hid (n < 2 ^ (7 * j) ∧ n ≤ most ∧ rNumF least most (10 - j) n (7 * j) l = res) ∧ Hid (Rd w0 wr R m l room) ∧ RF R w wr) (fun _ sv _ => 70 - (intOf sv).toNat)
  case atStart => exact ⟨0, 0, bs, rfl, rfl, by omega, ⟨by simp, Nat.zero_le _, HR.out⟩, h, RF.refl _ _⟩
  case round =>
    obtain ⟨n, j, l, rfl, rfl, hj, HN, HD, hf⟩ := hrel
    obtain ⟨f, hf10⟩ : ∃ f, 10 - j = f + 1 := ⟨9 - j, by omega⟩
    cases l with
    | nil =>
      have K := take_nil w0 wr R m room HD.out
      have HE : Hid (res = .error true) := by
        show _ = _
        rw [← HN.out.2.2, hf10]
        rfl
      go_wp2_with fail
      refine K.mono ?_
      rintro e wx ⟨rfl, hwx⟩
      obtain rfl := hwx.symm
      unfold gives
      go_wp2_with fail
      exact ⟨rfl, QNO true _ HE.out hf⟩
    | cons c l =>
      have K := take_cons w0 wr R m c l room HD.out
      have hc := HD.out.b8 c (by simp)
      obtain ⟨n1, n2, n3⟩ := HN.out
      rw [hf10] at n3
      obtain ⟨s, hs⟩ : ∃ s : Nat, s = 7 * j := ⟨_, rfl⟩
      rw [← hs] at n1 n3
      have hsj : s ≤ 63 := by omega
      have hs64 : s < 64 := by omega
      have hsi : (7 : Int) * (j : Int) = (s : Int) := by omega
      have hmin : min s 64 = s := by omega
      obtain ⟨d, hd⟩ : ∃ d : Nat, d = c % 128 := ⟨_, rfl⟩
      have a1 := andNot128 c hc
      rw [← hd] at a1
      have hd2 : d < 128 := by omega
      obtain ⟨D, hD⟩ : ∃ D : Nat, D = most - n := ⟨_, rfl⟩
      have x0 : (most : Int) - n = D := by omega
      obtain ⟨G, hG⟩ : ∃ G : Nat, G = D / 2 ^ s := ⟨_, rfl⟩
      have x1 : (D : Int) / 2 ^ s = (G : Int) := by rw [hG]; simp
      have HS := n3
      simp only [rNumF] at HS
      rw [← hd, ← hD, ← hG] at HS
      have hc' : (c : Int) < 256 := by omega
      by_cases b1 : G < d
      · have HE : Hid (res = .error false) := by show _ = _; rw [← HS, if_pos b1]
        have b1' : (G : Int) < (d : Int) := by omega
        clear HS n3 HN hd hD hG hs hf10
        go_wp2_with fail
        refine K.mono ?_
        rintro e wx ⟨rfl, hrd, hfx⟩
        go_wp2_with fail
        exact ⟨rfl, QNO false _ HE.out (hf.trans hfx)⟩
      rw [if_neg b1] at HS
      have b1' : (d : Int) ≤ (G : Int) := by omega
      obtain ⟨S, hS⟩ : ∃ S : Nat, S = d * 2 ^ s := ⟨_, rfl⟩
      have hSD : S ≤ D := by
        rw [hS]
        have h3 : d * 2 ^ s ≤ G * 2 ^ s := Nat.mul_le_mul_right _ (by omega)
        have h4 : G * 2 ^ s ≤ D := by rw [hG]; exact Nat.div_mul_le_self _ _
        omega
      have y1 : IntKind.u64.wrap ((d : Int) * 2 ^ s) = (S : Int) := by
        have e : (d : Int) * 2 ^ s = ((d * 2 ^ s : Nat) : Int) := by simp
        rw [e, ← hS, IntKind.wrap_u64]
        omega
      obtain ⟨N, hN⟩ : ∃ N : Nat, N = n + S := ⟨_, rfl⟩
      have y2 : bits .or .u64 (n : Int) (S : Int) = (N : Int) := by
        have := or_add n d s n1 (by rw [← hS]; omega)
        rw [← hS, ← hN] at this
        exact this
      rw [← hS, ← hN] at HS
      have hNm : N ≤ most := by omega
      have hN7 : N < 2 ^ (s + 7) := by
        rw [hN, hS, Nat.pow_add]
        have h3 : d * 2 ^ s ≤ 127 * 2 ^ s := Nat.mul_le_mul_right _ (by omega)
        generalize 2 ^ s = z at *
        omega
      by_cases b2 : 128 ≤ c
      · rw [if_pos b2] at HS
        have b2' : (128 : Int) ≤ (c : Int) := by omega
        obtain ⟨T, hT⟩ : ∃ T : Nat, T = s + 7 := ⟨_, rfl⟩
        have hTi : (s : Int) + 7 = (T : Int) := by omega
        rw [← hT] at HS hN7
        have M : ∀ W, Calls Try.prog 102 #[.int .u64 N, .int .i64 T, .int .u64 least, .int .u64 most] W fun e w' => w' = W ∧ e = if (most - N) / 2 ^ T = 0 ∨ N + (most - N) / 2 ^ T * 2 ^ T < least then gives false else .returned (.tuple #[]) := by
          intro W
          by_cases h63 : T < 64
          · exact mustGoOn_lo W N T least most hNm h2' h63 h1'
          · have e : T = 70 := by omega
            subst e
            have e0 : (most - N) / 2 ^ 70 = 0 := Nat.div_eq_of_lt (by have : (2 : Nat) ^ 70 = 1180591620717411303424 := by decide
                                                                      omega)
            rw [if_pos (.inl e0)]
            exact mustGoOn_70 W N least most hNm h2'
        by_cases b3 : (most - N) / 2 ^ T = 0 ∨ N + (most - N) / 2 ^ T * 2 ^ T < least
        · have HE : Hid (res = .error false) := by show _ = _; rw [← HS, if_pos b3]
          rw [if_pos b3] at M
          clear HS n3 HN hd hD hG hs hf10 hS hN hN7 n1 b3 hT
          go_wp2_with fail
          refine K.mono ?_
          rintro e wx ⟨rfl, hrd, hfx⟩
          go_wp2_with fail
          refine (M _).mono ?_
          rintro e wy ⟨hwy, rfl⟩
          obtain rfl := hwy.symm
          unfold gives
          go_wp2_with fail
          exact ⟨rfl, QNO false _ HE.out (hf.trans hfx)⟩
        · have HS' : Hid (rNumF least most f N T l = res) := by show _ = _; rw [if_neg b3] at HS; exact HS
          have hj9 : j + 1 ≤ 9 := by
            rcases Nat.lt_or_ge j 9 with h9 | h9
            · omega
            · exfalso
              apply b3
              left
              have e : T = 70 := by omega
              rw [e]
              exact Nat.div_eq_of_lt (by have : (2 : Nat) ^ 70 = 1180591620717411303424 := by decide
                                         omega)
          rw [if_neg b3] at M
          have HN' : Hid (N < 2 ^ (7 * (j + 1)) ∧ N ≤ most ∧ rNumF least most (10 - (j + 1)) N (7 * (j + 1)) l = res) := by
            have e1 : 7 * (j + 1) = T := by omega
            have e2 : 10 - (j + 1) = f := by omega
            rw [e1, e2]
            exact ⟨hN7, hNm, HS'.out⟩
          have hTj : (T : Int) = ((7 * (j + 1) : Nat) : Int) := by omega
          have HTJ : Hid ((T : Int) = ((7 * (j + 1) : Nat) : Int)) := hTj
          clear HS n3 HN hd hD hG hf10 hS hN hN7 n1 b3 hTj HS' hT hs
          go_wp2_with fail
          refine K.mono ?_
          rintro e wx ⟨rfl, hrd, hfx⟩
          go_wp2_with fail
          refine (M _).mono ?_
          rintro e wy ⟨hwy, rfl⟩
          obtain rfl := hwy.symm
          go_wp2_with fail
          go_roundw
          case rel => exact ⟨N, j + 1, l, rfl, by rw [HTJ.out], by omega, HN', hrd, hf.trans hfx⟩
          case measure => have := HTJ.out; simp [intOf]; omega
      · rw [if_neg b2] at HS
        have b2' : (c : Int) < 128 := by omega
        by_cases b3 : N < least
        · have HE : Hid (res = .error false) := by show _ = _; rw [← HS, if_pos (.inl b3)]
          have b3' : (N : Int) < (least : Int) := by omega
          clear HS n3 HN hd hD hG hs hf10 hS hN hN7 n1
          go_wp2_with fail
          refine K.mono ?_
          rintro e wx ⟨rfl, hrd, hfx⟩
          go_wp2_with fail
          exact ⟨rfl, QNO false _ HE.out (hf.trans hfx)⟩
        have b3' : (least : Int) ≤ (N : Int) := by omega
        by_cases b4 : d = 0 ∧ 0 < s
        · have HE : Hid (res = .error false) := by show _ = _; rw [← HS, if_pos (.inr b4)]
          obtain ⟨b4, b5⟩ := b4
          have b5' : (0 : Int) < (s : Int) := by omega
          have b4' : (d : Int) = 0 := by omega
          have y3 : bits .or .u64 (n : Int) 0 = (N : Int) := by have h0 : S = 0 := by rw [hS, b4]; simp
                                                                rw [h0] at y2; exact y2
          clear HS n3 HN hD hG hs hf10 hN7 n1 hS hN hd b4
          go_wp2_with fail
          refine K.mono ?_
          rintro e wx ⟨rfl, hrd, hfx⟩
          go_wp2_with fail
          exact ⟨rfl, QNO false _ HE.out (hf.trans hfx)⟩
        · have HE : Hid (res = .ok (N, l)) := by show _ = _; rw [← HS, if_neg (by omega)]
          by_cases b5 : d = 0
          · have b6 : s = 0 := by omega
            have b6' : (s : Int) ≤ 0 := by omega
            have HB5 : Hid (d = 0) := b5
            have b5' : (d : Int) = 0 := by omega
            have y3 : bits .or .u64 (n : Int) 0 = (N : Int) := by have h0 : S = 0 := by rw [hS, b5]; simp
                                                                  rw [h0] at y2; exact y2
            clear HS n3 HN hD hG hs hf10 hN7 n1 hS hN b4 b6 b5 hd
            go_wp2_with fail
            refine K.mono ?_
            rintro e wx ⟨rfl, hrd, hfx⟩
            go_wp2_with fail
            exact QOK N l _ HE.out (hf.trans hfx) hrd
          · have b5' : ¬ (d : Int) = 0 := by omega
            clear HS n3 HN hD hG hs hf10 hN7 n1 hS hN b4 hd
            go_wp2_with fail
            refine K.mono ?_
            rintro e wx ⟨rfl, hrd, hfx⟩
            go_wp2_with fail
            exact QOK N l _ HE.out (hf.trans hfx) hrd
end Go.Proofs.Ytikoddlidhefpaa
