/-
  bits.ReadVarint at any bytes: the number and the place behind it, or what is wrong first.
-/
import Derived.Test.YtignjhmbajiphaaBVar
import Derived.Test.YtignjhmbajiphaaBReadL
import Derived.WalkMore
namespace Go.Proofs.Ytignjhmbajiphaa
set_option linter.unusedVariables false
set_option linter.unusedSimpArgs false
open Go.ChangeShapes Go.WideShapes Go.ChangeAt Go.RowKit

/-- seven bits more -/
def rvAcc (acc c : Int) (j : Nat) : Int := bits .or .u64 acc (IntKind.u64.wrap (IntKind.u64.wrap (bits .andNot .u8 c 128) * 2 ^ min (7 * j) 64))
/-- a varint's number and how many bytes it has, or what is wrong -/
def rvF : List Int → Nat → Int → Bool → Except Int (Int × Nat)
  | [], _, _, _ => .error 6
  | c :: r, j, acc, ov =>
    if 128 ≤ c then rvF r (j + 1) (rvAcc acc c j) (ov || (decide (j = 9) && decide (1 < c)))
    else if (ov || (decide (j = 9) && decide (1 < c))) = true then .error 110
    else if c = 0 ∧ 0 < j then .error 8
    else .ok (rvAcc acc c j, j + 1)
def rv (zs : List Int) : Except Int (Int × Nat) := rvF zs 0 0 false

theorem bits_u64 (op : BinOp) (x y : Int) : 0 ≤ bits op .u64 x y ∧ bits op .u64 x y ≤ 18446744073709551615 := by
  have h : ∀ z : Int, 0 ≤ IntKind.u64.wrap z ∧ IntKind.u64.wrap z ≤ 18446744073709551615 := by
    intro z
    rw [IntKind.wrap_u64]
    omega
  unfold bits
  exact h _
theorem rvF_ok : ∀ (zs : List Int) (j : Nat) (acc : Int) (ov : Bool) (N : Int) (k : Nat), rvF zs j acc ov = .ok (N, k) → 0 ≤ N ∧ N ≤ 18446744073709551615 ∧ j < k ∧ k ≤ j + zs.length
  | [], _, _, _, _, _, h => by cases h
  | c :: r, j, acc, ov, N, k, h => by
    simp only [rvF] at h
    by_cases h1 : 128 ≤ c
    · rw [if_pos h1] at h
      have := rvF_ok r _ _ _ N k h
      simp only [List.length_cons]
      omega
    · rw [if_neg h1] at h
      split at h
      · cases h
      · split at h
        · cases h
        · cases h
          have := bits_u64 .or acc (IntKind.u64.wrap (IntKind.u64.wrap (bits .andNot .u8 c 128) * 2 ^ min (7 * j) 64))
          refine ⟨this.1, this.2, by omega, by simp⟩
/-- where the loop stands -/
def RvI (w : World) (ad : Option Addr) (L cap p : Nat) (zs : List Int) (R : Except Int (Int × Nat)) (a o i : Value) (wr : World) : Prop :=
  ∃ (j : Nat) (acc : Int) (ov : Bool), a = .int .u64 acc ∧ o = .bool ov ∧ i = .int .i64 j ∧ p + j ≤ L ∧ Hid (rvF (zs.drop (p + j)) j acc ov = R) ∧ Below w.heap.size w wr ∧
      wr.cell? ⟨w.heap.size, 0, none⟩ = some (.slice ad L cap) ∧ wr.cell? ⟨w.heap.size + 1, 0, none⟩ = some (.int .i64 ((p + j : Nat) : Int)) ∧ wr.frozen? ⟨w.heap.size + 1, 0, none⟩ = false
theorem three_ok {a b c d : Int} (h : a = c) (g : b = d) : Ending.returned (.tuple #[.int .u64 a, .int .i64 b, .int .i64 0]) = .returned (.tuple #[.int .u64 c, .int .i64 d, .int .i64 0]) := by rw [h, g]

set_option maxHeartbeats 8000000 in
set_option maxRecDepth 100000 in
theorem rv_any (ad : Option Addr) (L cap p : Nat) (zs : List Int) (w : World) (hL : L ≤ 1048576) (hp : p ≤ L) (hs : Src w ad L cap (zs.map (Value.int .u8))) (hby : Bytes zs) :
    Calls Try.prog 45 #[.slice ad L cap, .int .i64 p] w fun e w' => Below w.heap.size w w' ∧ match rv (zs.drop p) with
      | .ok (N, k) => e = .returned (.tuple #[.int .u64 N, .int .i64 ((p + k : Nat) : Int), .int .i64 0])
      | .error c => e = .returned (.tuple #[.int .u64 0, .int .i64 0, .int .i64 c]) := by
  have hzl : zs.length = L := by simpa using hs.1
  have hp' : (p : Int) ≤ (L : Int) := by omega
  have hL' : (L : Int) ≤ 1048576 := by omega
  refine (fun (H : ∀ Q : Ending → World → Prop, (∀ e w', (Below w.heap.size w w' ∧ match rv (zs.drop p) with
      | .ok (N, k) => e = .returned (.tuple #[.int .u64 N, .int .i64 ((p + k : Nat) : Int), .int .i64 0])
      | .error c => e = .returned (.tuple #[.int .u64 0, .int .i64 0, .int .i64 c])) → Q e w') → Calls Try.prog 45 #[.slice ad L cap, .int .i64 p] w Q) => H _ fun _ _ h => h) fun Q HQ => ?_
  obtain ⟨R, HR⟩ : ∃ R, Hid (rv (zs.drop p) = R) := ⟨_, rfl⟩
  have QOK : Hid (∀ N k w', R = .ok (N, k) → Below w.heap.size w w' → Q (.returned (.tuple #[.int .u64 N, .int .i64 ((p + k : Nat) : Int), .int .i64 0])) w') := fun N k w' e h => HQ _ _ ⟨h, by rw [HR.out, e]⟩
  have QNO : Hid (∀ c w', R = .error c → Below w.heap.size w w' → Q (.returned (.tuple #[.int .u64 0, .int .i64 0, .int .i64 c])) w') := fun c w' e h => HQ _ _ ⟨h, by rw [HR.out, e]⟩
  clear HQ
  go_enter Try.func45, Try.ntmps45
  go_wp2
  go_step3
  go_wp2
  go_step3
  go_wp2
  go_loopw [8, 9, 10] (RvI w ad L cap p zs R)
    (fun _ _ i _ => L + 1 - (intOf i).toNat)
  case atStart => exact ⟨0, 0, false, rfl, rfl, rfl, by omega, HR.out, ((Below.refl _ w).alloc (Nat.le_refl _) _).alloc (by simp) _, by simp, by simp, by simp⟩
  case round =>
    obtain ⟨j, acc, ov, rfl, rfl, rfl, hj, H, hb, hcb, hca, hfa⟩ := hrel
    by_cases hcr : p + j < L
    · obtain ⟨g, off, rfl, hcj⟩ := src_atI (hs.later hb) hcr
      have hc0 := hby _ (getD_mem (zs := zs) (i := p + j) (by omega))
      have HD : Hid (zs.drop (p + j) = zs.getD (p + j) 0 :: zs.drop (p + (j + 1))) := by
        show _ = _
        rw [List.drop_eq_getElem_cons (show p + j < zs.length by omega)]
        simp [List.getD, List.getElem?_eq_getElem (show p + j < zs.length by omega), Nat.add_assoc]
      generalize zs.getD (p + j) 0 = c at *
      obtain ⟨s, HS⟩ : ∃ s, Hid (s = 7 * j) := ⟨_, rfl⟩
      have hs7 : (7 : Int) * (j : Int) = (s : Int) := by have := HS.out; omega
      have hj' : (j : Int) ≤ 1048576 := by omega
      have hsl : (s : Int) ≤ 7340032 := by omega
      have hpj : (p : Int) + (j : Int) < (L : Int) := by omega
      have HB : Hid (∀ x, Below w.heap.size w (wr.setCell ⟨w.heap.size + 1, 0, none⟩ x)) := fun x => hb.setCell (p := ⟨w.heap.size + 1, 0, none⟩) (by simp) _
      have HC : Hid (∀ x, (wr.setCell ⟨w.heap.size + 1, 0, none⟩ x).cell? ⟨w.heap.size, 0, none⟩ = some (.slice (some ⟨g, off, none⟩) L cap) ∧ (wr.setCell ⟨w.heap.size + 1, 0, none⟩ x).cell? ⟨w.heap.size + 1, 0, none⟩ = some x ∧ (wr.setCell ⟨w.heap.size + 1, 0, none⟩ x).frozen? ⟨w.heap.size + 1, 0, none⟩ = false) := fun x =>
        ⟨(World.cell?_setCell_other _ _ _ _ (by simp)).trans hcb, World.cell?_setCell_same _ _ _ hca, by rw [World.frozen?_setCell]; exact hfa⟩
      clear hs hby HR
      by_cases h128 : 128 ≤ c
      · have HN : Hid (rvF (zs.drop (p + (j + 1))) (j + 1) (bits .or .u64 acc (IntKind.u64.wrap (IntKind.u64.wrap (bits .andNot .u8 c 128) * 2 ^ min s 64))) (ov || (decide (j = 9) && decide (1 < c))) = R) := by
          have h := H.out
          rw [HD.out, rvF, if_pos h128] at h
          rw [HS.out]
          exact h
        have h1c : 1 < c := by omega
        rw [show decide (1 < c) = true by simp; exact h1c] at HN
        clear H
        cases ov with
        | true =>
          rw [Bool.true_or] at HN
          go_wp2_with (go_at_call 61; refine (take_yes' _ _ g off L cap (p + j) _ c _ rfl hcr (by omega) hca hfa hcb hcj).mono ?_; rintro e w1 ⟨rfl, rfl⟩)
          go_roundw
          case rel =>
            have RR : RvI w (some ⟨g, off, none⟩) L cap p zs R (.int .u64 (bits .or .u64 acc (IntKind.u64.wrap (IntKind.u64.wrap (bits .andNot .u8 c 128) * 2 ^ (min s 64))))) (.bool true) (.int .i64 ((j : Int) + 1)) (wr.setCell ⟨w.heap.size + 1, 0, none⟩ (.int .i64 ((p + j + 1 : Nat) : Int))) :=
              ⟨j + 1, _, true, rfl, rfl, by go_num, by omega, HN.out, HB.out _, (HC.out _).1, (HC.out _).2.1, (HC.out _).2.2⟩
            (repeat apply Exists.intro)
            exact ⟨RR, rfl⟩
          case measure => simp [intOf]; omega
        | false =>
          by_cases h9 : j = 9
          · rw [show decide (j = 9) = true by simp; exact h9] at HN
            have hj9 : ((j : Int) == 9) = true := by simp; omega
            have HN : Hid (rvF (zs.drop (p + (j + 1))) (j + 1) (bits .or .u64 acc (IntKind.u64.wrap (IntKind.u64.wrap (bits .andNot .u8 c 128) * 2 ^ min s 64))) true = R) := HN.out
            rw [show min s 64 = s by have := HS.out; omega] at HN
            clear h9
            go_wp2_with (go_at_call 61; refine (take_yes' _ _ g off L cap (p + j) _ c _ rfl hcr (by omega) hca hfa hcb hcj).mono ?_; rintro e w1 ⟨rfl, rfl⟩)
            go_roundw
            case rel =>
              have RR : RvI w (some ⟨g, off, none⟩) L cap p zs R (.int .u64 (bits .or .u64 acc (IntKind.u64.wrap (IntKind.u64.wrap (bits .andNot .u8 c 128) * 2 ^ s)))) (.bool true) (.int .i64 ((j : Int) + 1)) (wr.setCell ⟨w.heap.size + 1, 0, none⟩ (.int .i64 ((p + j + 1 : Nat) : Int))) :=
                ⟨j + 1, _, true, rfl, rfl, by go_num, by omega, HN.out, HB.out _, (HC.out _).1, (HC.out _).2.1, (HC.out _).2.2⟩
              (repeat apply Exists.intro)
              exact ⟨RR, rfl⟩
            case measure => simp [intOf]; omega
          · rw [show decide (j = 9) = false by simp; exact h9] at HN
            have hj9 : ((j : Int) == 9) = false := by simp; omega
            have HN : Hid (rvF (zs.drop (p + (j + 1))) (j + 1) (bits .or .u64 acc (IntKind.u64.wrap (IntKind.u64.wrap (bits .andNot .u8 c 128) * 2 ^ min s 64))) false = R) := HN.out
            clear h9
            go_wp2_with (go_at_call 61; refine (take_yes' _ _ g off L cap (p + j) _ c _ rfl hcr (by omega) hca hfa hcb hcj).mono ?_; rintro e w1 ⟨rfl, rfl⟩)
            go_roundw
            case rel =>
              have RR : RvI w (some ⟨g, off, none⟩) L cap p zs R (.int .u64 (bits .or .u64 acc (IntKind.u64.wrap (IntKind.u64.wrap (bits .andNot .u8 c 128) * 2 ^ (min s 64))))) (.bool false) (.int .i64 ((j : Int) + 1)) (wr.setCell ⟨w.heap.size + 1, 0, none⟩ (.int .i64 ((p + j + 1 : Nat) : Int))) :=
                ⟨j + 1, _, false, rfl, rfl, by go_num, by omega, HN.out, HB.out _, (HC.out _).1, (HC.out _).2.1, (HC.out _).2.2⟩
              (repeat apply Exists.intro)
              exact ⟨RR, rfl⟩
            case measure => simp [intOf]; omega
      · have hlt128 : c < 128 := by omega
        have HR2 : Hid (R = if (ov || (decide (j = 9) && decide (1 < c))) = true then .error 110 else if c = 0 ∧ 0 < j then .error 8 else .ok (bits .or .u64 acc (IntKind.u64.wrap (IntKind.u64.wrap (bits .andNot .u8 c 128) * 2 ^ min s 64)), j + 1)) := by
          have h := H.out
          rw [HD.out, rvF, if_neg h128] at h
          rw [HS.out]
          exact h.symm
        clear H
        cases ov with
        | true =>
          have HE : Hid (R = .error 110) := HR2.out
          clear HR2 h128
          go_wp2_with (go_at_call 61; refine (take_yes' _ _ g off L cap (p + j) _ c _ rfl hcr (by omega) hca hfa hcb hcj).mono ?_; rintro e w1 ⟨rfl, rfl⟩)
          (try rw [Exit.noGoto_ret])
          go_ret3
          exact QNO.out 110 _ HE.out (HB.out _)
        | false =>
          by_cases h9 : j = 9
          · have hj9 : ((j : Int) == 9) = true := by simp; omega
            by_cases h1c : 1 < c
            · have HE : Hid (R = .error 110) := by show _ = _; rw [HR2.out, if_pos (by simp; exact ⟨h9, h1c⟩)]
              clear HR2 h128 h9
              go_wp2_with (go_at_call 61; refine (take_yes' _ _ g off L cap (p + j) _ c _ rfl hcr (by omega) hca hfa hcb hcj).mono ?_; rintro e w1 ⟨rfl, rfl⟩)
              (try rw [Exit.noGoto_ret])
              go_ret3
              exact QNO.out 110 _ HE.out (HB.out _)
            · have h1c' : c ≤ 1 := by omega
              by_cases hc00 : c = 0
              · have HE : Hid (R = .error 8) := by show _ = _; rw [HR2.out, if_neg (by simp; omega), if_pos ⟨hc00, by omega⟩]
                have hj0 : (0 : Int) < (j : Int) := by omega
                have hcz : (c == 0) = true := by simp; exact hc00
                clear HR2 h128 h9 hc00
                go_wp2_with (go_at_call 61; refine (take_yes' _ _ g off L cap (p + j) _ c _ rfl hcr (by omega) hca hfa hcb hcj).mono ?_; rintro e w1 ⟨rfl, rfl⟩)
                (try rw [Exit.noGoto_ret])
                go_ret3
                exact QNO.out 8 _ HE.out (HB.out _)
              · have HE : Hid (R = .ok (bits .or .u64 acc (IntKind.u64.wrap (IntKind.u64.wrap (bits .andNot .u8 c 128) * 2 ^ min s 64)), j + 1)) := by show _ = _; rw [HR2.out, if_neg (by simp; omega), if_neg (by omega)]
                have hcz : (c == 0) = false := by simp; exact hc00
                have QOK' : ∀ w', Below w.heap.size w w' → Q (.returned (.tuple #[.int .u64 (bits .or .u64 acc (IntKind.u64.wrap (IntKind.u64.wrap (bits .andNot .u8 c 128) * 2 ^ min s 64))), .int .i64 ((p : Int) + (j : Int) + 1), .int .i64 0])) w' := fun w' hb => by
                  have h := QOK.out _ _ w' HE.out hb
                  rw [show ((p + (j + 1) : Nat) : Int) = (p : Int) + (j : Int) + 1 by omega] at h
                  exact h
                rw [show min s 64 = s by have := HS.out; omega] at QOK'
                clear HR2 h128 h9 hc00
                go_wp2_with (go_at_call 61; refine (take_yes' _ _ g off L cap (p + j) _ c _ rfl hcr (by omega) hca hfa hcb hcj).mono ?_; rintro e w1 ⟨rfl, rfl⟩)
                (try rw [Exit.noGoto_ret])
                go_ret3
                exact QOK' _ (HB.out _)
          · have hj9 : ((j : Int) == 9) = false := by simp; omega
            by_cases hc00 : c = 0
            · have hcz : (c == 0) = true := by simp; exact hc00
              by_cases hj00 : 0 < j
              · have HE : Hid (R = .error 8) := by show _ = _; rw [HR2.out, if_neg (by simp; omega), if_pos ⟨hc00, hj00⟩]
                have hj0 : (0 : Int) < (j : Int) := by omega
                clear HR2 h128 h9 hc00
                go_wp2_with (go_at_call 61; refine (take_yes' _ _ g off L cap (p + j) _ c _ rfl hcr (by omega) hca hfa hcb hcj).mono ?_; rintro e w1 ⟨rfl, rfl⟩)
                (try rw [Exit.noGoto_ret])
                go_ret3
                exact QNO.out 8 _ HE.out (HB.out _)
              · have HE : Hid (R = .ok (bits .or .u64 acc (IntKind.u64.wrap (IntKind.u64.wrap (bits .andNot .u8 c 128) * 2 ^ min s 64)), j + 1)) := by show _ = _; rw [HR2.out, if_neg (by simp; omega), if_neg (by omega)]
                have hj0 : ¬ (0 : Int) < (j : Int) := by omega
                have QOK' : ∀ w', Below w.heap.size w w' → Q (.returned (.tuple #[.int .u64 (bits .or .u64 acc (IntKind.u64.wrap (IntKind.u64.wrap (bits .andNot .u8 c 128) * 2 ^ min s 64))), .int .i64 ((p : Int) + (j : Int) + 1), .int .i64 0])) w' := fun w' hb => by
                  have h := QOK.out _ _ w' HE.out hb
                  rw [show ((p + (j + 1) : Nat) : Int) = (p : Int) + (j : Int) + 1 by omega] at h
                  exact h
                rw [show min s 64 = s by have := HS.out; omega] at QOK'
                clear HR2 h128 h9 hc00
                go_wp2_with (go_at_call 61; refine (take_yes' _ _ g off L cap (p + j) _ c _ rfl hcr (by omega) hca hfa hcb hcj).mono ?_; rintro e w1 ⟨rfl, rfl⟩)
                (try rw [Exit.noGoto_ret])
                go_ret3
                exact QOK' _ (HB.out _)
            · have HE : Hid (R = .ok (bits .or .u64 acc (IntKind.u64.wrap (IntKind.u64.wrap (bits .andNot .u8 c 128) * 2 ^ min s 64)), j + 1)) := by show _ = _; rw [HR2.out, if_neg (by simp; omega), if_neg (by omega)]
              have hcz : (c == 0) = false := by simp; exact hc00
              have QOK' : ∀ w', Below w.heap.size w w' → Q (.returned (.tuple #[.int .u64 (bits .or .u64 acc (IntKind.u64.wrap (IntKind.u64.wrap (bits .andNot .u8 c 128) * 2 ^ min s 64))), .int .i64 ((p : Int) + (j : Int) + 1), .int .i64 0])) w' := fun w' hb => by
                  have h := QOK.out _ _ w' HE.out hb
                  rw [show ((p + (j + 1) : Nat) : Int) = (p : Int) + (j : Int) + 1 by omega] at h
                  exact h
              clear HR2 h128 h9 hc00
              go_wp2_with (go_at_call 61; refine (take_yes' _ _ g off L cap (p + j) _ c _ rfl hcr (by omega) hca hfa hcb hcj).mono ?_; rintro e w1 ⟨rfl, rfl⟩)
              (try rw [Exit.noGoto_ret])
              go_ret3
              exact QOK' _ (HB.out _)
    · have HE : Hid (R = .error 6) := by
        show _ = _
        rw [← H.out, List.drop_eq_nil_of_le (by omega)]
        rfl
      clear hs hby HR H
      go_wp2_with (go_at_call 61; refine (take_no _ _ L cap (p + j) ad _ (by omega) hca hcb).mono ?_; rintro e w1 ⟨rfl, hw1⟩; obtain rfl := hw1.symm)
      (try rw [Exit.noGoto_ret])
      go_ret3
      exact QNO.out 6 _ HE.out hb
end Go.Proofs.Ytignjhmbajiphaa
