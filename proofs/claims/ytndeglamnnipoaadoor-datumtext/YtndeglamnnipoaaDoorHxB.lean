/-
  appendHex, shows and quoted.
-/
import Derived.Test.YtndeglamnnipoaaDoorHxA
import Derived.Laws.AppendOwn
import Derived.Lib.AppendStr
import Derived.Laws.BitsAllLaws
namespace Go.Proofs.YtndeglamnnipoaaDoor
set_option linter.unusedVariables false
set_option linter.unusedSimpArgs false
open Go.ChangeShapes Go.WideShapes Go.ChangeAt Go.RowKit Go.Sort

/-- the digits in memory -/
def Tabd (w : World) : Prop := ∀ i, i < 16 → w.cell? ⟨0, i, none⟩ = some (.int .u8 (dg i : Nat))
theorem Tabd.later {w w' : World} {B : Nat} (h : Tabd w) (hb : Below B w w') (h0 : 0 < B) : Tabd w' := fun i hi => by
  rw [hb.cell (p := ⟨0, i, none⟩) h0]; exact h i hi

theorem digit_at (N : Int) (n b : Nat) (hN : N = (n : Int)) (hn : N ≤ 18446744073709551615) : bits .and .u64 (N / 2 ^ (4 * b)) 15 = ((n / 16 ^ b % 16 : Nat) : Int) := by
  subst hN
  have e : (n : Int) / 2 ^ (4 * b) = ((n / 2 ^ (4 * b) : Nat) : Int) := by simp
  have hlt : n / 2 ^ (4 * b) < 18446744073709551616 := Nat.lt_of_le_of_lt (Nat.div_le_self _ _) (by omega)
  rw [e, show (15 : Int) = ((15 : Nat) : Int) from rfl, u64_and_nat _ _ hlt (by omega)]
  congr 1
  rw [show (15 : Nat) = 2 ^ 4 - 1 from rfl, Nat.and_two_pow_sub_one_eq_mod, Nat.pow_mul]
theorem one_src (w : World) (x : Nat) : Src (w.alloc (.cells #[.int .u8 (x : Int)] 5)) (some ⟨w.heap.size, 0, none⟩) 1 1 (c8 [x]) :=
  ⟨rfl, .inr ⟨_, rfl, new_news w (c8 [x]) 5 _⟩⟩
set_option maxRecDepth 100000 in
set_option maxHeartbeats 2000000 in
theorem appendHex_any (w : World) (B : Nat) (v : Value) (l : List Nat) (N : Int) (n c : Nat) (hN : N = (n : Int)) (hn : N ≤ 18446744073709551615) (hc : c ≤ 16) (hown : w.ownsRow B 5 1 v l.length (c8 l)) (hB : B ≤ w.heap.size) (hl : l.length ≤ 100000) (ht : Tabd w) (h0 : 0 < B) :
    Calls Tryd.prog 8 #[v, .int .u64 N, .int .i64 c] w fun e w' => ∃ v', e = .returned v' ∧ w'.ownsRow B 5 1 v' (l ++ hx c n).length (c8 (l ++ hx c n)) ∧ Below B w w' := by
  obtain ⟨i0, hi, hz0, hz1, hz2⟩ := info_parts infoU8
  have hc' : (c : Int) ≤ 16 := by omega
  have hn0 : 0 ≤ N := by omega
  have HN : Hid (N = (n : Int)) := hN
  have HO : Hid (w.ownsRow B 5 1 v l.length (c8 l)) := hown
  have HH : Hid (B ≤ w.heap.size ∧ l.length ≤ 100000 ∧ 0 < B) := ⟨hB, hl, h0⟩
  have HT : Hid (Tabd w) := ht
  clear hN hown hB hl h0 ht
  go_enter Tryd.func8, Tryd.ntmps8
  go_wp2_with fail
  go_loopw [0, 7] (fun sv iv wr => ∃ (a : Nat) (L : List Nat), a ≤ c ∧ iv = .int .i64 ((a : Int) - 1) ∧ Hid (wr.ownsRow B 5 1 sv L.length (c8 L)) ∧ Hid (L ++ hx a n = l ++ hx c n ∧ L.length + a = l.length + c) ∧ Below B w wr) (fun _ iv _ => (intOf iv + 1).toNat)
  case atStart => exact ⟨c, l, Nat.le_refl _, rfl, HO.out, ⟨rfl, rfl⟩, Below.refl _ _⟩
  case round =>
    obtain ⟨a, L, ha, rfl, HL, HE, hb⟩ := hrel
    rcases a with _ | b
    · have q : ¬ (0 : Int) ≤ ((0 : Nat) : Int) - 1 := by omega
      have e : L = l ++ hx c n := by have := HE.out.1; simpa [hx] using this
      have e2 : L.length = l.length + (hx c n).length := by rw [e, List.length_append]
      go_wp2_with fail
      go_ret
      exact ⟨_, rfl, by rw [← e, ← e2]; exact HL.out, hb⟩
    · have HTr : Hid (Tabd wr) := HT.out.later hb HH.out.2.2
      have e1 : ((b + 1 : Nat) : Int) - 1 = (b : Int) := by omega
      rw [e1]
      obtain ⟨q, hq⟩ : ∃ q : Nat, n / 16 ^ b % 16 = q := ⟨_, rfl⟩
      have hq16 : q < 16 := by omega
      have a1 := digit_at N n b HN.out hn
      rw [hq] at a1
      have c1 := HTr.out q hq16
      have HQ : Hid (hx (b + 1) n = dg q :: hx b n) := by show _ = _; rw [hx_cons, hq]
      clear hq e1
      have q0 : (0 : Int) ≤ (q : Int) ∧ (q : Int) < 16 := ⟨by omega, by omega⟩
      have hS := one_src wr (dg q)
      have HB : Hid (B ≤ (wr.alloc (.cells #[.int .u8 ((dg q : Nat) : Int)] 5)).heap.size) := by show _ ≤ _; have h1 := HH.out.1; have h2 := hb.size; simp; omega
      have HZ : Hid (L.length + 1 ≤ maxLen ∧ (L.length + 1) * 1 ≤ 140737488355328) := by have h1 := HH.out.2.1; have h2 := HE.out.2; refine ⟨?_, ?_⟩ <;> (try unfold maxLen) <;> omega
      have hba : Below B wr (wr.alloc (.cells #[.int .u8 ((dg q : Nat) : Int)] 5)) := (Below.refl _ _).alloc (by have h1 := HH.out.1; have h2 := hb.size; omega) _
      go_wp2_with (at_builtin; refine wpList_append_src rfl (.tmp 14) (.tmp 22) 28 rfl B 5 i0 (.int .u8 0) 1 Tryd.underlying28 hi hz0 hz1 hz2 rfl _ _ _ rfl (HL.out.alloc _) _ _ _ (c8 [dg q]) rfl hS (c8_one _) HZ.out.1 HZ.out.2 HB.out ?_; intro v' w' ho hbx)
      refine ⟨⟨b, L ++ [dg q], by omega, by simp, ?_, ?_, (hb.trans hba).trans hbx⟩, ?_⟩
      · show World.ownsRow _ _ _ _ _ _ _
        rw [c8_append, List.length_append]
        exact ho
      · refine ⟨?_, ?_⟩
        · rw [List.append_assoc, ← HE.out.1, HQ.out]; rfl
        · have := HE.out.2
          simp
          omega
      · simp [intOf]

set_option maxHeartbeats 1000000 in
theorem shows_any (c : Nat) (w : World) : Calls Tryd.prog 16 #[.int .u8 (c : Int)] w fun e w' => e = .returned (.bool (shB c)) ∧ w' = w := by
  unfold shB
  by_cases h1 : 32 ≤ c
  · by_cases h2 : c ≤ 126
    · by_cases h3 : c = 34
      · subst h3
        go_enter Tryd.func16, Tryd.ntmps16
        go_wp2_with fail
        go_ret
        exact ⟨by simp, rfl⟩
      · by_cases h4 : c = 92
        · subst h4
          go_enter Tryd.func16, Tryd.ntmps16
          go_wp2_with fail
          go_ret
          exact ⟨by simp, rfl⟩
        · have i1 : (32 : Int) ≤ (c : Int) := by omega
          have i2 : (c : Int) ≤ 126 := by omega
          have i3 : ¬ (c : Int) = 34 := by omega
          have i4 : ¬ (c : Int) = 92 := by omega
          go_enter Tryd.func16, Tryd.ntmps16
          go_wp2_with fail
          go_ret
          exact ⟨by simp [h1, h2, h3, h4, i3, i4], rfl⟩
    · have i1 : (32 : Int) ≤ (c : Int) := by omega
      have i2 : ¬ (c : Int) ≤ 126 := by omega
      go_enter Tryd.func16, Tryd.ntmps16
      go_wp2_with fail
      go_ret
      exact ⟨by simp [h1, h2], rfl⟩
  · have i1 : ¬ (32 : Int) ≤ (c : Int) := by omega
    go_enter Tryd.func16, Tryd.ntmps16
    go_wp2_with fail
    go_ret
    exact ⟨by simp [h1], rfl⟩
end Go.Proofs.YtndeglamnnipoaaDoor
