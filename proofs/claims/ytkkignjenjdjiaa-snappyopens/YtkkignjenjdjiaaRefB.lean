/-
  The reference: a number of bytes, a part.
-/
import Derived.Test.YtkkignjenjdjiaaRef
namespace Go.Proofs.Ytkkignjenjdjiaa
set_option linter.unusedVariables false
set_option linter.unusedSimpArgs false
open Go.ChangeShapes Go.WideShapes Go.ChangeAt Go.RowKit

def rLow (k : Nat) (l : List Nat) : Nat × Bool := if l.length < k then (0, false) else (little (l.take k), true)
def rPart (p : Nat) : List Nat → Nat × Nat × Nat × Bool
  | [] => (0, 0, 0, false)
  | b :: r =>
    if b % 4 = 0 then
      if b / 4 < 60 then (b / 4 + 1, 0, p + 1, true) else ((rLow (b / 4 - 59) r).1 + 1, 0, p + 1 + (b / 4 - 59), (rLow (b / 4 - 59) r).2)
    else if b % 4 = 1 then (b / 4 % 8 + 4, b / 4 / 8 * 256 + (rLow 1 r).1, p + 2, (rLow 1 r).2)
    else if b % 4 = 2 then (b / 4 + 1, (rLow 2 r).1, p + 3, (rLow 2 r).2)
    else (b / 4 + 1, (rLow 4 r).1, p + 5, (rLow 4 r).2)

theorem rLow_le {k : Nat} {l : List Nat} {x : Nat} {ok : Bool} (h : rLow k l = (x, ok)) (h8 : ∀ c ∈ l, c < 256) (hk : k ≤ 4) : x ≤ 4294967295 := by
  unfold rLow at h
  split at h
  · cases h; omega
  · cases h
    have hl := little_lt (l.take k) fun c hc => h8 c (List.mem_of_mem_take hc)
    have hl2 : (l.take k).length ≤ 4 := by rw [List.length_take]; omega
    have hp : (256 : Nat) ^ (l.take k).length ≤ 256 ^ 4 := Nat.pow_le_pow_right (by omega) hl2
    omega
theorem little_drop (T : List Nat) (j : Nat) (h : j < T.length) : little (T.drop j) = T.getD j 0 + 256 * little (T.drop (j + 1)) := by
  rw [drop_getD T j h]
  rfl

set_option maxRecDepth 100000 in
set_option maxHeartbeats 1000000 in
theorem rlittle_any (w : World) (a : Option Addr) (bs : List Nat) (cp p n : Nat) (hs : Src w a bs.length cp (c8 bs)) (h8 : ∀ c ∈ bs, c < 256) (hl : bs.length ≤ 140737488355328) (hp : p ≤ bs.length) (hn : 1 ≤ n) (hn4 : n ≤ 4) :
    Calls Try.prog 32 #[.slice a bs.length cp, .int .i64 p, .int .i64 n] w fun e w' => w' = w ∧ e = .returned (.tuple #[.int .i64 ((rLow n (bs.drop p)).1 : Int), .bool (rLow n (bs.drop p)).2]) := by
  unfold rLow
  rw [List.length_drop]
  obtain ⟨L, hL⟩ : ∃ L, L = bs.length := ⟨_, rfl⟩
  have HL : Hid (L = bs.length) := hL
  have HS : Hid (Src w a L cp (c8 bs)) := by rw [hL]; exact hs
  have H8 : Hid (∀ c ∈ bs, c < 256) := h8
  rw [← hL] at hl hp ⊢
  clear hs hL h8
  by_cases hc : L - p < n
  · rw [if_pos hc]
    have hc' : (L : Int) - (p : Int) < (n : Int) := by omega
    go_enter Try.func32, Try.ntmps32
    go_wp2_with fail
    go_ret2
    exact ⟨rfl, rfl⟩
  rw [if_neg hc]
  have hc' : (n : Int) ≤ (L : Int) - (p : Int) := by omega
  refine calls_of fun Q HQ => ?_
  obtain ⟨T, hT⟩ : ∃ T, T = (bs.drop p).take n := ⟨_, rfl⟩
  rw [← hT] at HQ
  have QOK : Q (.returned (.tuple #[.int .i64 (little T : Int), .bool true])) w := HQ _ _ ⟨rfl, rfl⟩
  clear HQ
  have HTL : Hid (T.length = n) := by show _ = _; rw [hT, List.length_take, List.length_drop, ← HL.out]; omega
  have HT8 : Hid (∀ c ∈ T, c < 256) := by intro c hc; rw [hT] at hc; exact H8.out c (List.mem_of_mem_drop (List.mem_of_mem_take hc))
  have HTC : Hid (∀ j, j < n → ∃ g off, a = some ⟨g, off, none⟩ ∧ w.cell? ⟨g, off + (p + j), none⟩ = some (.int .u8 ((T.getD j 0 : Nat) : Int))) := by
    intro j hj
    obtain ⟨g, off, e, hcell⟩ := src_at HS.out (j := p + j) (by omega)
    refine ⟨g, off, e, ?_⟩
    rw [hcell, hT]
    simp [List.getD, List.getElem?_take, hj, List.getElem?_drop]
  clear hT
  go_enter Try.func32, Try.ntmps32
  go_wp2_with fail
  go_loop [8, 9] (fun xv iv => ∃ (k : Nat) (z : Int), k ≤ n ∧ xv = .int .i64 ((little (T.drop k) : Nat) : Int) ∧ iv = .int .i64 z ∧ Hid (z = (k : Int) - 1)) (fun _ iv => (intOf iv + 1).toNat)
  case atStart => exact ⟨n, (n : Int) - 1, Nat.le_refl _, by rw [List.drop_eq_nil_of_le (by rw [HTL.out]; omega)]; rfl, rfl, rfl⟩
  case round =>
    obtain ⟨k, z, hk, rfl, rfl, HZ⟩ := hrel
    by_cases hk0 : k = 0
    · subst hk0
      have hz : z < 0 := by have := HZ.out; omega
      rw [List.drop_zero]
      go_wp2_with fail
      exact QOK
    · obtain ⟨j, hj⟩ : ∃ j, k = j + 1 := ⟨k - 1, by omega⟩
      subst hj
      have hzj : z = (j : Int) := by have := HZ.out; omega
      subst hzj
      obtain ⟨g, off, rfl, hcell⟩ := HTC.out j (by omega)
      obtain ⟨q, hq⟩ : ∃ q, q = p + j := ⟨_, rfl⟩
      have hqi : (p : Int) + (j : Int) = (q : Int) := by omega
      rw [← hq] at hcell
      have hqL : (q : Int) < (L : Int) := by omega
      have hd := little_drop T j (by rw [HTL.out]; omega)
      obtain ⟨c, hc⟩ : ∃ c, c = T.getD j 0 := ⟨_, rfl⟩
      rw [← hc] at hcell hd
      have hc8 : (c : Int) < 256 := by
        have := HT8.out c (by rw [hc]; exact getD_mem _ _ (by rw [HTL.out]; omega))
        omega
      have hb := little_lt (T.drop (j + 1)) fun x hx => HT8.out x (List.mem_of_mem_drop hx)
      have hb2 : little (T.drop (j + 1)) < 256 ^ 4 := Nat.lt_of_lt_of_le hb (Nat.pow_le_pow_right (by omega) (by rw [List.length_drop, HTL.out]; omega))
      obtain ⟨x, hx⟩ : ∃ x, x = little (T.drop (j + 1)) := ⟨_, rfl⟩
      rw [← hx] at hd hb2 ⊢
      have hxb : (x : Int) < 4294967296 := by omega
      have HD : Hid ((256 : Int) * (x : Int) + (c : Int) = ((little (T.drop j) : Nat) : Int)) := by show _ = _; omega
      clear hd hx hc hq hb HZ
      go_wp2_with fail
      go_round
      case rel => exact ⟨j, (j : Int) - 1, by omega, by rw [← HD.out], rfl, rfl⟩
      case measure => simp [intOf]

set_option maxRecDepth 100000 in
set_option maxHeartbeats 1000000 in
theorem rpart_any (w : World) (a : Option Addr) (bs : List Nat) (cp p : Nat) (hs : Src w a bs.length cp (c8 bs)) (h8 : ∀ c ∈ bs, c < 256) (hl : bs.length ≤ 1048576) (hp : p ≤ bs.length) :
    Calls Try.prog 22 #[.slice a bs.length cp, .int .i64 p] w fun e w' => w' = w ∧ e = .returned (.tuple #[.int .i64 ((rPart p (bs.drop p)).1 : Int), .int .i64 ((rPart p (bs.drop p)).2.1 : Int), .int .i64 ((rPart p (bs.drop p)).2.2.1 : Int), .bool (rPart p (bs.drop p)).2.2.2]) := by
  have LT := fun n h1 h2 hp1 => rlittle_any w a bs cp (p + 1) n hs h8 (by omega) hp1 h1 h2
  refine calls_of fun Q HQ => ?_
  obtain ⟨R1, R2, R3, R4, HR⟩ : ∃ R1 R2 R3 R4, Hid (rPart p (bs.drop p) = (R1, R2, R3, R4)) := ⟨_, _, _, _, rfl⟩
  rw [HR.out] at HQ
  have QOK : ∀ r1 r2 r3 r4, (r1, r2, r3, r4) = (R1, R2, R3, R4) → Q (.returned (.tuple #[.int .i64 (r1 : Int), .int .i64 (r2 : Int), .int .i64 (r3 : Int), .bool r4])) w := fun r1 r2 r3 r4 e => by cases e; exact HQ _ _ ⟨rfl, rfl⟩
  clear HQ
  have hp1 : (p : Int) + 1 = ((p + 1 : Nat) : Int) := by omega
  by_cases hlt : p < bs.length
  · obtain ⟨g, off, rfl, hcell⟩ := src_at hs hlt
    have hd := drop_getD bs p hlt
    have hb := h8 _ (getD_mem bs p hlt)
    have LT2 := fun n h1 h2 => LT n h1 h2 (by omega)
    obtain ⟨L, hL⟩ : ∃ L, L = bs.length := ⟨_, rfl⟩
    rw [← hL] at LT2 ⊢
    have hlt' : (p : Int) < (L : Int) := by omega
    have hL' : (L : Int) ≤ 1048576 := by omega
    obtain ⟨b, hbd⟩ : ∃ b, b = bs.getD p 0 := ⟨_, rfl⟩
    rw [← hbd] at hcell hd hb
    have hb' : (b : Int) < 256 := by omega
    have HX := HR.out
    rw [hd] at HX
    simp only [rPart] at HX
    obtain ⟨q, hq⟩ : ∃ q, q = b / 4 := ⟨_, rfl⟩
    have hqi : (b : Int) / 4 = (q : Int) := by omega
    have hq63' : (q : Int) ≤ 63 := by omega
    rw [← hq] at HX
    have h8r : Hid (∀ c ∈ bs.drop (p + 1), c < 256) := fun c hc => h8 c (List.mem_of_mem_drop hc)
    generalize bs.drop (p + 1) = r at *
    have H8 := h8r
    clear h8r
    obtain ⟨p1, hp1d⟩ : ∃ p1, p1 = p + 1 := ⟨_, rfl⟩
    rw [← hp1d] at LT2 hp1
    have hp1' : (p1 : Int) ≤ 1048576 := by omega
    clear LT hs h8 hbd hd hL HR
    by_cases r0 : b % 4 = 0
    · rw [if_pos r0] at HX
      have r0' : (b : Int) % 4 = 0 := by omega
      by_cases q6 : q < 60
      · rw [if_pos q6] at HX
        have q6' : (q : Int) < 60 := by omega
        have QK := QOK (q + 1) 0 p1 true (by rw [hp1d]; exact HX)
        clear HX hq hp1d LT2
        go_enter Try.func22, Try.ntmps22
        go_wp2_with fail
        exact bodyPost_ret (v := .tuple #[.int .i64 ((q + 1 : Nat) : Int), .int .i64 ((0 : Nat) : Int), .int .i64 (p1 : Int), .bool true]) (by simp [results, Try.results22, go_sem]) rfl QK
      · rw [if_neg q6] at HX
        have q6' : (60 : Int) ≤ (q : Int) := by omega
        have LW := LT2 (q - 59) (by omega) (by omega)
        obtain ⟨m, hmd⟩ : ∃ m, m = q - 59 := ⟨_, rfl⟩
        rw [← hmd] at LW HX
        have hmi : (q : Int) - 59 = (m : Int) := by omega
        obtain ⟨x, ok, hxo⟩ : ∃ x ok, rLow m r = (x, ok) := ⟨_, _, rfl⟩
        have hxb := rLow_le hxo H8.out (by omega)
        rw [hxo] at LW HX
        obtain ⟨nx, hnx⟩ : ∃ nx, nx = p1 + m := ⟨_, rfl⟩
        have hnxi : (p1 : Int) + (q : Int) - 59 = (nx : Int) := by omega
        have QK := QOK (x + 1) 0 nx ok (by rw [hnx, hp1d]; exact HX)
        have hxb' : (x : Int) ≤ 4294967295 := by omega
        clear HX hq hp1d LT2 hmd hnx hxo
        go_enter Try.func22, Try.ntmps22
        go_wp2_with fail
        refine LW.mono ?_
        rintro e wx ⟨hwx, rfl⟩
        obtain rfl := hwx.symm
        go_wp2_with fail
        exact bodyPost_ret (v := .tuple #[.int .i64 ((x + 1 : Nat) : Int), .int .i64 ((0 : Nat) : Int), .int .i64 (nx : Int), .bool ok]) (by simp [results, Try.results22, go_sem]) rfl QK
    rw [if_neg r0] at HX
    by_cases r1 : b % 4 = 1
    · rw [if_pos r1] at HX
      have r1' : (b : Int) % 4 = 1 := by omega
      have LW := LT2 1 (by omega) (by omega)
      obtain ⟨x, ok, hxo⟩ : ∃ x ok, rLow 1 r = (x, ok) := ⟨_, _, rfl⟩
      have hxb := rLow_le hxo H8.out (by omega)
      have hxb' : (x : Int) ≤ 4294967295 := by omega
      rw [hxo] at LW HX
      obtain ⟨n, hnd⟩ : ∃ n, n = q % 8 + 4 := ⟨_, rfl⟩
      obtain ⟨f, hfd⟩ : ∃ f, f = q / 8 * 256 + x := ⟨_, rfl⟩
      have hni : (q : Int) % 8 + 4 = (n : Int) := by omega
      have hfi : 256 * ((q : Int) / 8) + (x : Int) = (f : Int) := by omega
      have QK := QOK n f (p + 2) ok (by rw [hnd, hfd]; exact HX)
      clear HX hq hp1d LT2 hnd hfd hxo r0 r1
      go_enter Try.func22, Try.ntmps22
      go_wp2_with fail
      refine LW.mono ?_
      rintro e wx ⟨hwx, rfl⟩
      obtain rfl := hwx.symm
      go_wp2_with fail
      exact bodyPost_ret (v := .tuple #[.int .i64 (n : Int), .int .i64 (f : Int), .int .i64 ((p + 2 : Nat) : Int), .bool ok]) (by simp [results, Try.results22, go_sem]) rfl QK
    rw [if_neg r1] at HX
    by_cases r2 : b % 4 = 2
    · rw [if_pos r2] at HX
      have r2' : (b : Int) % 4 = 2 := by omega
      have LW := LT2 2 (by omega) (by omega)
      obtain ⟨x, ok, hxo⟩ : ∃ x ok, rLow 2 r = (x, ok) := ⟨_, _, rfl⟩
      have hxb := rLow_le hxo H8.out (by omega)
      have hxb' : (x : Int) ≤ 4294967295 := by omega
      rw [hxo] at LW HX
      have QK := QOK (q + 1) x (p + 3) ok HX
      clear HX hq hp1d LT2 hxo r0 r1 r2
      go_enter Try.func22, Try.ntmps22
      go_wp2_with fail
      refine LW.mono ?_
      rintro e wx ⟨hwx, rfl⟩
      obtain rfl := hwx.symm
      go_wp2_with fail
      exact bodyPost_ret (v := .tuple #[.int .i64 ((q + 1 : Nat) : Int), .int .i64 (x : Int), .int .i64 ((p + 3 : Nat) : Int), .bool ok]) (by simp [results, Try.results22, go_sem]) rfl QK
    · rw [if_neg r2] at HX
      have r3' : (b : Int) % 4 = 3 := by omega
      have LW := LT2 4 (by omega) (by omega)
      obtain ⟨x, ok, hxo⟩ : ∃ x ok, rLow 4 r = (x, ok) := ⟨_, _, rfl⟩
      have hxb := rLow_le hxo H8.out (by omega)
      have hxb' : (x : Int) ≤ 4294967295 := by omega
      rw [hxo] at LW HX
      have QK := QOK (q + 1) x (p + 5) ok HX
      clear HX hq hp1d LT2 hxo r0 r1 r2
      go_enter Try.func22, Try.ntmps22
      go_wp2_with fail
      refine LW.mono ?_
      rintro e wx ⟨hwx, rfl⟩
      obtain rfl := hwx.symm
      go_wp2_with fail
      exact bodyPost_ret (v := .tuple #[.int .i64 ((q + 1 : Nat) : Int), .int .i64 (x : Int), .int .i64 ((p + 5 : Nat) : Int), .bool ok]) (by simp [results, Try.results22, go_sem]) rfl QK
  · have HX := HR.out
    rw [List.drop_eq_nil_of_le (by omega)] at HX
    have QK := QOK 0 0 0 false HX
    have hlt' : (bs.length : Int) ≤ (p : Int) := by omega
    generalize bs.length = L at *
    go_enter Try.func22, Try.ntmps22
    go_wp2_with fail
    exact bodyPost_ret (v := .tuple #[.int .i64 ((0 : Nat) : Int), .int .i64 ((0 : Nat) : Int), .int .i64 ((0 : Nat) : Int), .bool false]) (by simp [results, Try.results22, go_sem]) rfl QK
end Go.Proofs.Ytkkignjenjdjiaa
