/-
  The reference's Refused.
-/
import Derived.Test.YtfcjnpbnejaolaaSrt
namespace Go.Proofs.Ytfcjnpbnejaolaa
set_option linter.unusedVariables false
set_option linter.unusedSimpArgs false
open Go.ChangeShapes Go.WideShapes Go.ChangeAt Go.RowKit Go.Sort Go.Shelf

/-- how many are above 0 -/
def cpos (l : List Int) : Nat := (l.filter fun x => decide (0 < x)).length
theorem cpos_succ (l : List Int) (i : Nat) (hi : i < l.length) : cpos (l.take (i + 1)) = cpos (l.take i) + if 0 < l.getD i 0 then 1 else 0 := by
  have e : l.take (i + 1) = l.take i ++ [l.getD i 0] := by
    rw [List.take_succ_eq_append_getElem hi]
    simp [List.getD, List.getElem?_eq_getElem hi]
  unfold cpos
  rw [e, List.filter_append, List.length_append]
  by_cases h : 0 < l.getD i 0
  · rw [if_pos h]
    have : [l.getD i 0].filter (fun x => decide (0 < x)) = [l.getD i 0] := by rw [List.filter_cons, if_pos (decide_eq_true h)]; rfl
    rw [this]
    rfl
  · rw [if_neg h]
    have : [l.getD i 0].filter (fun x => decide (0 < x)) = [] := by
      rw [List.filter_eq_nil_iff]
      intro y hy
      rw [List.mem_singleton.1 hy]
      simpa using h
    rw [this]
    rfl
theorem cpos_le (l : List Int) (i : Nat) : cpos (l.take i) ≤ i := by
  unfold cpos
  have h1 := List.length_filter_le (fun x => decide (0 < x)) (l.take i)
  rw [List.length_take] at h1
  omega
theorem filter_map1 (m : List Nat) : (some1 m m.length).map (fun i => m.getD i 0) = m.filter fun x => decide (0 < x) := by
  have e : m = (List.range m.length).map (fun i => m.getD i 0) := by
    refine List.ext_getElem (by simp) (fun i h1 h2 => ?_)
    simp [List.getD, List.getElem?_eq_getElem h1]
  conv => rhs; rw [e]
  rw [List.filter_map]
  rfl
theorem cpos_syms (m : List Nat) : cpos (nm m) = (syms m).length := by
  have h1 : (syms m).length = (m.filter fun x => decide (0 < x)).length := by
    rw [syms_len, ← filter_map1, List.length_map]
  rw [h1]
  unfold cpos nm
  rw [List.filter_map, List.length_map]
  congr 1
  refine List.filter_congr fun x _ => ?_
  simp
/-- what is refused, as the reference has it -/
def rfV (l : List Int) (limit : Int) : Int :=
  if (limit < 1 ∨ 15 < limit) ∨ l.any (bad 2147483647) = true then 2 else if 1000 < l.length then 3 else if 2 ^ limit.toNat < cpos l then 150 else 0
theorem rfV_lenR (l : List Int) (limit : Int) : rfV l limit = lenR l limit := by
  unfold rfV lenR
  by_cases h1 : limit < 1 ∨ 15 < limit
  · rw [if_pos (.inl h1), if_pos h1]
  · rw [if_neg h1]
    by_cases h2 : l.any (bad 2147483647) = true
    · have : refu 2147483647 l = 2 := by unfold refu; rw [if_pos h2]
      rw [if_pos (.inr h2), this, if_pos (by decide)]
    · rw [if_neg (by intro h; rcases h with h | h; exact h1 h; exact h2 h)]
      by_cases h3 : 1000 < l.length
      · have : refu 2147483647 l = 3 := by unfold refu; rw [if_neg h2, if_pos h3]
        rw [if_pos h3, this, if_pos (by decide)]
      · have h0 : refu 2147483647 l = 0 := by unfold refu; rw [if_neg h2, if_neg h3]
        rw [if_neg h3, h0, if_neg (show ¬ (0 : Int) ≠ 0 by simp)]
        obtain ⟨_, m, rfl, _⟩ := refu_ok h0
        rw [cpos_syms, nm_toNat]

set_option maxHeartbeats 4000000 in
theorem refused_bad (w : World) (a : Option Addr) (len cap : Nat) (l : List Int) (limit : Int) (hs : Src w a len cap (ci l)) (hlen : len ≤ 17592186044416) (hA : limit < 1 ∨ 15 < limit) :
    Calls Try.prog 4 #[.slice a len cap, .int .i64 limit] w fun e w' => e = .returned (.int .i64 (lenR l limit)) ∧ w' = w := by
  have hl : l.length = len := by have := hs.1; rwa [ci_len] at this
  have hlen' : (len : Int) ≤ 17592186044416 := by omega
  have HS : Hid (∀ k, k < len → ∃ g off, a = some ⟨g, off, none⟩ ∧ w.cell? ⟨g, off + k, none⟩ = some (.int .i64 (l.getD k 0))) := fun k hk => src_at hs hk
  have HL : Hid (l.length = len) := hl
  refine calls_of fun Q HQ => ?_
  have QOK : Hid (∀ r, Hid (r = rfV l limit) → Q (.returned (.int .i64 r)) w) := fun r h => HQ _ _ ⟨by rw [h.out, rfV_lenR], rfl⟩
  clear hs hl HQ
  go_enter Try.func4, Try.ntmps4
  have HE : Hid (2 = rfV l limit) := by show _ = _; unfold rfV; rw [if_pos (.inl hA)]
  have hcase : limit < 1 ∨ (¬ limit < 1 ∧ 15 < limit) := by omega
  rcases hcase with h1 | ⟨h1, h2⟩
  all_goals (
    go_wp2_with fail
    go_loop [5, 6, 7] (fun bv nv iv => ∃ (i n : Nat), i ≤ len ∧ n ≤ i ∧ bv = .bool true ∧ nv = .int .i64 (n : Int) ∧ iv = .int .i64 (i : Int)) (fun _ _ iv => len - (intOf iv).toNat)
    case atStart => exact ⟨0, 0, Nat.zero_le _, Nat.le_refl _, rfl, rfl, rfl⟩
    case round =>
      obtain ⟨i, n, hi, hn, rfl, rfl, rfl⟩ := hrel
      by_cases hlt : i < len
      · have hlt' : (i : Int) < (len : Int) := by omega
        obtain ⟨g, off, rfl, hc⟩ := HS.out i hlt
        generalize l.getD i 0 = x at *
        by_cases hx : 0 < x
        · go_wp2_with fail
          go_round
          case rel => exact ⟨i + 1, n + 1, by omega, by omega, rfl, by go_num, by go_num⟩
          case measure => simp [intOf]; omega
        · go_wp2_with fail
          go_round
          case rel => exact ⟨i + 1, n, by omega, by omega, rfl, rfl, by go_num⟩
          case measure => simp [intOf]; omega
      · have hge : (len : Int) ≤ (i : Int) := by omega
        go_wp2_with fail
        all_goals exact QOK.out 2 HE)

set_option maxHeartbeats 4000000 in
theorem refused_ok (w : World) (a : Option Addr) (len cap : Nat) (l : List Int) (L : Nat) (hs : Src w a len cap (ci l)) (hlen : len ≤ 17592186044416) (hL1 : 1 ≤ L) (hL2 : L ≤ 15) :
    Calls Try.prog 4 #[.slice a len cap, .int .i64 (L : Int)] w fun e w' => e = .returned (.int .i64 (lenR l (L : Int))) ∧ w' = w := by
  have hl : l.length = len := by have := hs.1; rwa [ci_len] at this
  have hlen' : (len : Int) ≤ 17592186044416 := by omega
  have HS : Hid (∀ k, k < len → ∃ g off, a = some ⟨g, off, none⟩ ∧ w.cell? ⟨g, off + k, none⟩ = some (.int .i64 (l.getD k 0))) := fun k hk => src_at hs hk
  have HL : Hid (l.length = len) := hl
  refine calls_of fun Q HQ => ?_
  have QOK : Hid (∀ r, Hid (r = rfV l (L : Int)) → Q (.returned (.int .i64 r)) w) := fun r h => HQ _ _ ⟨by rw [h.out, rfV_lenR], rfl⟩
  clear hs hl HQ
  go_enter Try.func4, Try.ntmps4
  have h1 : (1 : Int) ≤ (L : Int) := by omega
  have h2 : (L : Int) ≤ 15 := by omega
  have hA : ¬ ((L : Int) < 1 ∨ 15 < (L : Int)) := by omega
  have hq1 : decide ((L : Int) < 1) = false := decide_eq_false (by omega)
  have hq2 : decide ((15 : Int) < (L : Int)) = false := decide_eq_false (by omega)
  have hq3 : decide (L < 1) = false := decide_eq_false (by omega)
  have hq4 : decide (15 < L) = false := decide_eq_false (by omega)
  go_wp2_with fail
  go_loop [5, 6, 7] (fun bv nv iv => ∃ (i n : Nat) (b : Bool), i ≤ len ∧ n ≤ i ∧ bv = .bool b ∧ nv = .int .i64 (n : Int) ∧ iv = .int .i64 (i : Int) ∧ Hid (b = (l.take i).any (bad 2147483647) ∧ n = cpos (l.take i))) (fun _ _ iv => len - (intOf iv).toNat)
  case atStart => exact ⟨0, 0, false, Nat.zero_le _, Nat.le_refl _, rfl, rfl, rfl, by simp, by simp [cpos]⟩
  case round =>
    obtain ⟨i, n, b, hi, hn, rfl, rfl, rfl, HI⟩ := hrel
    by_cases hlt : i < len
    · have hlt' : (i : Int) < (len : Int) := by omega
      obtain ⟨g, off, rfl, hc⟩ := HS.out i hlt
      have HC : Hid (cpos (l.take (i + 1)) = n + if 0 < l.getD i 0 then 1 else 0) := by show _ = _; rw [cpos_succ l i (by rw [HL.out]; exact hlt), HI.out.2]
      have HAN : Hid ((l.take (i + 1)).any (bad 2147483647) = (b || bad 2147483647 (l.getD i 0))) := by
        show _ = _
        have e : l.take (i + 1) = l.take i ++ [l.getD i 0] := by
          have hi2 : i < l.length := by rw [HL.out]; exact hlt
          rw [List.take_succ_eq_append_getElem hi2]
          simp [List.getD, List.getElem?_eq_getElem hi2]
        rw [e, List.any_append, HI.out.1]
        simp
      generalize l.getD i 0 = x at *
      have hbad : bad 2147483647 x = true ↔ (x < 0 ∨ 2147483647 < x) := by unfold bad; simp
      have key : ∀ b2 : Bool, b2 = (b || bad 2147483647 x) → ∀ n2 : Nat, n2 = n + (if 0 < x then 1 else 0) → Hid (b2 = (l.take (i + 1)).any (bad 2147483647) ∧ n2 = cpos (l.take (i + 1))) := fun b2 e2 n2 e3 => ⟨by rw [HAN.out, e2], by rw [HC.out, e3]⟩
      have HKEY : Hid (∀ b2 : Bool, b2 = (b || bad 2147483647 x) → ∀ n2 : Nat, n2 = n + (if 0 < x then 1 else 0) → Hid (b2 = (l.take (i + 1)).any (bad 2147483647) ∧ n2 = cpos (l.take (i + 1)))) := key
      have HBAD : Hid (bad 2147483647 x = true ↔ (x < 0 ∨ 2147483647 < x)) := hbad
      clear key hbad HC HAN HI
      have fin : ∀ b2 : Bool, b2 = (b || decide (x < 0 ∨ 2147483647 < x)) → b2 = (b || bad 2147483647 x) := fun b2 h => h
      have HFIN : Hid (∀ b2 : Bool, b2 = (b || decide (x < 0 ∨ 2147483647 < x)) → b2 = (b || bad 2147483647 x)) := fin
      clear fin
      cases b
      · by_cases hx0 : x < 0
        · have hx1 : ¬ 0 < x := by omega
          go_wp2_with fail
          go_round
          case rel => exact ⟨i + 1, n, true, by omega, by omega, rfl, rfl, by go_num, HKEY.out true (HFIN.out true (by simp [hx0])) n (by rw [if_neg hx1]; rfl)⟩
          case measure => simp [intOf]; omega
        · by_cases hx2 : 2147483647 < x
          · have hx1 : 0 < x := by omega
            go_wp2_with fail
            go_round
            case rel => exact ⟨i + 1, n + 1, true, by omega, by omega, rfl, by go_num, by go_num, HKEY.out true (HFIN.out true (by simp [hx2])) (n + 1) (by rw [if_pos hx1])⟩
            case measure => simp [intOf]; omega
          · have hx3 : x ≤ 2147483647 := by omega
            by_cases hx1 : 0 < x
            · go_wp2_with fail
              go_round
              case rel => exact ⟨i + 1, n + 1, false, by omega, by omega, rfl, by go_num, by go_num, HKEY.out false (HFIN.out false (by simp [hx0, hx2]; try omega)) (n + 1) (by rw [if_pos hx1])⟩
              case measure => simp [intOf]; omega
            · go_wp2_with fail
              go_round
              case rel => exact ⟨i + 1, n, false, by omega, by omega, rfl, rfl, by go_num, HKEY.out false (HFIN.out false (by simp [hx0, hx2]; try omega)) n (by rw [if_neg hx1]; rfl)⟩
              case measure => simp [intOf]; omega
      · by_cases hx1 : 0 < x
        · go_wp2_with fail
          go_round
          case rel => exact ⟨i + 1, n + 1, true, by omega, by omega, rfl, by go_num, by go_num, HKEY.out true (HFIN.out true (by simp)) (n + 1) (by rw [if_pos hx1])⟩
          case measure => simp [intOf]; omega
        · go_wp2_with fail
          go_round
          case rel => exact ⟨i + 1, n, true, by omega, by omega, rfl, rfl, by go_num, HKEY.out true (HFIN.out true (by simp)) n (by rw [if_neg hx1]; rfl)⟩
          case measure => simp [intOf]; omega
    · have hge : (len : Int) ≤ (i : Int) := by omega
      have HT : Hid (b = l.any (bad 2147483647) ∧ n = cpos l) := by
        have h := HI.out
        rwa [List.take_of_length_le (by rw [HL.out]; omega)] at h
      have HV : Hid (rfV l (L : Int) = if b = true then 2 else if 1000 < len then 3 else if 2 ^ L < n then 150 else 0) := by
        show _ = _
        unfold rfV
        rw [HT.out.1, HT.out.2, HL.out, Int.toNat_natCast]
        by_cases hb : l.any (bad 2147483647) = true
        · rw [if_pos (.inr hb), if_pos hb]
        · rw [if_neg (by intro h; rcases h with h | h; exact hA h; exact hb h), if_neg hb]
      have hp : 2 ^ L ≤ 2 ^ 15 := Nat.pow_le_pow_right (by omega) (by omega)
      have hw : wrap64 ((2 : Int) ^ L) = ((2 ^ L : Nat) : Int) := shl_wrap L (by omega)
      have hnl : (n : Int) ≤ 17592186044416 := by omega
      cases b
      · simp only [Bool.false_eq_true, if_false] at HV
        by_cases h3 : 1000 < len
        · rw [if_pos h3] at HV
          have h3' : (1000 : Int) < (len : Int) := by omega
          go_wp2_with fail
          all_goals exact QOK.out 3 HV.out.symm
        · rw [if_neg h3] at HV
          have h3' : (len : Int) ≤ 1000 := by omega
          generalize 2 ^ L = p at *
          by_cases h4 : p < n
          · rw [if_pos h4] at HV
            have h4' : (p : Int) < (n : Int) := by omega
            go_wp2_with fail
            all_goals exact QOK.out 150 HV.out.symm
          · rw [if_neg h4] at HV
            have h4' : (n : Int) ≤ (p : Int) := by omega
            go_wp2_with fail
            all_goals exact QOK.out 0 HV.out.symm
      · simp only [if_true] at HV
        go_wp2_with fail
        all_goals exact QOK.out 2 HV.out.symm
theorem refused_any (w : World) (a : Option Addr) (len cap : Nat) (l : List Int) (limit : Int) (hs : Src w a len cap (ci l)) (hlen : len ≤ 17592186044416) :
    Calls Try.prog 4 #[.slice a len cap, .int .i64 limit] w fun e w' => e = .returned (.int .i64 (lenR l limit)) ∧ w' = w := by
  by_cases hA : limit < 1 ∨ 15 < limit
  · exact refused_bad w a len cap l limit hs hlen hA
  · obtain ⟨L, hL⟩ : ∃ L : Nat, limit = (L : Int) := ⟨limit.toNat, by omega⟩
    subst hL
    exact refused_ok w a len cap l L hs hlen (by omega) (by omega)
end Go.Proofs.Ytfcjnpbnejaolaa
