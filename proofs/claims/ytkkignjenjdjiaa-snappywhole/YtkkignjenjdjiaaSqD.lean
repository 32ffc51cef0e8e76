/-
  The writer: copies; how many bytes are alike.
-/
import Derived.Test.YtkkignjenjdjiaaSqB
import Derived.Test.YtkkignjenjdjiaaRef
namespace Go.Proofs.Ytkkignjenjdjiaa
set_option linter.unusedVariables false
set_option linter.unusedSimpArgs false
open Go.ChangeShapes Go.WideShapes Go.ChangeAt Go.RowKit

def fstN (s : Nat) : Nat := if 64 < s ∧ s < 68 then 60 else if s ≤ 64 then s else 64
theorem fstN_le (s : Nat) : fstN s ≤ s ∧ fstN s ≤ 64 ∧ (1 ≤ s → 1 ≤ fstN s) := by
  unfold fstN
  split
  · omega
  split <;> omega
theorem firstOf_any (w : World) (s : Nat) (hs : s ≤ 1048576) : Calls Try.prog 36 #[.int .i64 s] w fun e w' => e = .returned (.int .i64 (fstN s : Nat)) ∧ w' = w := by
  unfold fstN
  by_cases h1 : 64 < s ∧ s < 68
  · rw [if_pos h1]
    have h2 : (64 : Int) < (s : Int) := by omega
    have h3 : (s : Int) < 68 := by omega
    go_enter Try.func36, Try.ntmps36
    go_wp2_with fail
    go_ret
    exact ⟨rfl, rfl⟩
  rw [if_neg h1]
  by_cases h2 : s ≤ 64
  · rw [if_pos h2]
    have h3 : (s : Int) ≤ 64 := by omega
    have hmin : min (s : Int) 64 = (s : Int) := by omega
    go_enter Try.func36, Try.ntmps36
    go_wp2_with fail
    go_ret
    exact ⟨rfl, rfl⟩
  · rw [if_neg h2]
    have h3 : (64 : Int) < (s : Int) := by omega
    have h4 : (68 : Int) ≤ (s : Int) := by omega
    have hmin : min (s : Int) 64 = 64 := by omega
    go_enter Try.func36, Try.ntmps36
    go_wp2_with fail
    go_ret
    exact ⟨rfl, rfl⟩

theorem pays_any (w : World) (s : Nat) (back : Int) (hs : s ≤ 1048576) (hb : 0 ≤ back) (hb2 : back ≤ 1048576) :
    Calls Try.prog 28 #[.int .i64 s, .int .i64 back] w fun e w' => e = .returned (.bool (decide ((back < 65536 ∧ 4 ≤ s) ∨ 5 < s))) ∧ w' = w := by
  by_cases h1 : back < 65536
  · by_cases h2 : 4 ≤ s
    · have h2' : (4 : Int) ≤ (s : Int) := by omega
      rw [decide_eq_true (.inl ⟨h1, h2⟩)]
      go_enter Try.func28, Try.ntmps28
      go_wp2_with fail
      go_ret
      exact ⟨rfl, rfl⟩
    · have h2' : (s : Int) < 4 := by omega
      have e4 : decide ((4 : Int) ≤ (s : Int)) = false := by rw [decide_eq_false_iff_not]; omega
      have h3' : (s : Int) ≤ 5 := by omega
      have e5 : decide ((5 : Int) < (s : Int)) = false := by rw [decide_eq_false_iff_not]; omega
      rw [decide_eq_false (by omega)]
      go_enter Try.func28, Try.ntmps28
      go_wp2_with fail
      go_ret
      exact ⟨rfl, rfl⟩
  · have h1' : 65536 ≤ back := by omega
    by_cases h3 : 5 < s
    · have h3' : (5 : Int) < (s : Int) := by omega
      rw [decide_eq_true (.inr h3)]
      go_enter Try.func28, Try.ntmps28
      go_wp2_with fail
      go_ret
      exact ⟨rfl, rfl⟩
    · have h3' : (s : Int) ≤ 5 := by omega
      have e5 : decide ((5 : Int) < (s : Int)) = false := by rw [decide_eq_false_iff_not]; omega
      rw [decide_eq_false (by omega)]
      go_enter Try.func28, Try.ntmps28
      go_wp2_with fail
      go_ret
      exact ⟨rfl, rfl⟩

/-- a copy as a part -/
def copyB (s back : Nat) : List Nat :=
  if s < 12 ∧ back < 2048 then [(back / 256 * 8 + s - 4) * 4 + 1, back % 256]
  else if back < 65536 then [(s - 1) * 4 + 2, back % 256, back / 256]
  else [(s - 1) * 4 + 3, back % 256, back / 256 % 256, back / 65536, 0]

set_option maxRecDepth 100000 in
set_option maxHeartbeats 1000000 in
theorem copyPart_any (w : World) (s back : Nat) (hs : 4 ≤ s) (hs6 : s ≤ 64) (hb : back ≤ 1048576) :
    Calls Try.prog 37 #[.int .i64 s, .int .i64 back] w fun e w' => e = .returned (.slice (some ⟨w.heap.size, 0, none⟩) (copyB s back).length (copyB s back).length) ∧ w' = w.alloc (.cells (c8 (copyB s back)).toArray 5) := by
  unfold copyB
  have hs' : (4 : Int) ≤ (s : Int) := by omega
  have hs6' : (s : Int) ≤ 64 := by omega
  by_cases h1 : s < 12 ∧ back < 2048
  · rw [if_pos h1]
    obtain ⟨h1, h2⟩ := h1
    have h1' : (s : Int) < 12 := by omega
    obtain ⟨d, hd⟩ : ∃ d, d = back / 256 := ⟨_, rfl⟩
    obtain ⟨n, hn⟩ : ∃ n, n = d * 8 + s - 4 := ⟨_, rfl⟩
    obtain ⟨x, hx⟩ : ∃ x, x = n * 4 + 1 := ⟨_, rfl⟩
    obtain ⟨b0, hb0⟩ : ∃ b0, b0 = back % 256 := ⟨_, rfl⟩
    rw [← hd, ← hn, ← hx, ← hb0]
    have hb0i : IntKind.u8.wrap (back : Int) = (b0 : Int) := by rw [conv8, hb0]
    have hdi : (back : Int) / 256 = (d : Int) := by omega
    have hdl : (d : Int) ≤ 7 := by omega
    have hni : (d : Int) * 8 + (s : Int) - 4 = (n : Int) := by omega
    have hnl : (n : Int) ≤ 63 := by omega
    have hxi : (n : Int) * 4 + 1 = (x : Int) := by omega
    have hxl : (x : Int) < 256 := by omega
    have hbl : (back : Int) < 2048 := by omega
    obtain ⟨M, hM⟩ : ∃ M : Int, M = (back : Int) := ⟨_, rfl⟩
    rw [← hM] at hb0i hdi hbl ⊢
    have hM0 : 0 ≤ M := by omega
    clear hd hn hx hb0 hM hb h2 h1
    go_enter Try.func37, Try.ntmps37
    go_wp2_with fail
    go_ret
    exact ⟨rfl, rfl⟩
  rw [if_neg h1]
  obtain ⟨q, hq⟩ : ∃ q, q = s - 1 := ⟨_, rfl⟩
  have hqi : (s : Int) - 1 = (q : Int) := by omega
  have hql : (q : Int) ≤ 63 := by omega
  obtain ⟨b0, hb0⟩ : ∃ b0, b0 = back % 256 := ⟨_, rfl⟩
  have hb0i : IntKind.u8.wrap (back : Int) = (b0 : Int) := by rw [conv8, hb0]
  obtain ⟨d1, hd1⟩ : ∃ d1, d1 = back / 256 := ⟨_, rfl⟩
  have hd1i : (back : Int) / 256 = (d1 : Int) := by omega
  obtain ⟨M, hM⟩ : ∃ M : Int, M = (back : Int) := ⟨_, rfl⟩
  have hM0 : 0 ≤ M := by omega
  have hb1 : ¬ ((s : Int) < 12 ∧ M < 2048) := by omega
  have hb1b : (decide ((s : Int) < 12) && decide (M < 2048)) = false := by
    rw [Bool.and_eq_false_iff, decide_eq_false_iff_not, decide_eq_false_iff_not]
    omega
  by_cases h2 : back < 65536
  · rw [if_pos h2]
    obtain ⟨x, hx⟩ : ∃ x, x = q * 4 + 2 := ⟨_, rfl⟩
    have hxi : (q : Int) * 4 + 2 = (x : Int) := by omega
    have hxl : (x : Int) < 256 := by omega
    have hd1l : (d1 : Int) < 256 := by omega
    have h2' : M < 65536 := by omega
    rw [← hq, ← hx, ← hb0, ← hd1]
    rw [← hM] at hb0i hd1i ⊢
    by_cases h12 : s < 12
    · have h12' : (s : Int) < 12 := by omega
      have h20' : (2048 : Int) ≤ M := by omega
      clear hq hx hb0 hd1 hM hb h2 h1 hb1 hb1b
      go_enter Try.func37, Try.ntmps37
      go_wp2_with fail
      go_ret
      exact ⟨rfl, rfl⟩
    · have h12' : (12 : Int) ≤ (s : Int) := by omega
      clear hq hx hb0 hd1 hM hb h2 h1 hb1 hb1b
      go_enter Try.func37, Try.ntmps37
      go_wp2_with fail
      go_ret
      exact ⟨rfl, rfl⟩
  · rw [if_neg h2]
    obtain ⟨x, hx⟩ : ∃ x, x = q * 4 + 3 := ⟨_, rfl⟩
    have hxi : (q : Int) * 4 + 3 = (x : Int) := by omega
    have hxl : (x : Int) < 256 := by omega
    have h2' : 65536 ≤ M := by omega
    obtain ⟨b1, hb1d⟩ : ∃ b1, b1 = d1 % 256 := ⟨_, rfl⟩
    have hb1i : IntKind.u8.wrap (d1 : Int) = (b1 : Int) := by rw [conv8, hb1d]
    obtain ⟨d2, hd2⟩ : ∃ d2, d2 = back / 65536 := ⟨_, rfl⟩
    have hd2i : (back : Int) / 65536 = (d2 : Int) := by omega
    have hd2l : (d2 : Int) < 256 := by omega
    have hd3i : M / 16777216 = 0 := by omega
    have h20' : (2048 : Int) ≤ M := by omega
    rw [← hq, ← hx, ← hb0, ← hd1, ← hb1d, ← hd2]
    obtain ⟨D, hD⟩ : ∃ D : Int, D = (d1 : Int) := ⟨_, rfl⟩
    rw [← hM] at hb0i hd1i hd2i ⊢
    rw [← hD] at hd1i hb1i
    have hD0 : 0 ≤ D := by omega
    have hDl : D ≤ 4096 := by omega
    have hMb : M ≤ 1048576 := by omega
    by_cases h12 : s < 12
    · have h12' : (s : Int) < 12 := by omega
      clear hq hx hb0 hd1 hM hb h2 h1 hb1 hb1b hD hb1d hd2
      go_enter Try.func37, Try.ntmps37
      go_wp2_with fail
      go_ret
      exact ⟨rfl, rfl⟩
    · have h12' : (12 : Int) ≤ (s : Int) := by omega
      clear hq hx hb0 hd1 hM hb h2 h1 hb1 hb1b hD hb1d hd2
      go_enter Try.func37, Try.ntmps37
      go_wp2_with fail
      go_ret
      exact ⟨rfl, rfl⟩

/-- copies as parts, as many as are needed -/
def copF (back : Nat) : Nat → Nat → List Nat
  | 0, _ => []
  | k + 1, s => if s = 0 then [] else copyB (fstN s) back ++ copF back k (s - fstN s)
theorem copF_far (back : Nat) : ∀ (k j s : Nat), s ≤ k → s ≤ j → copF back k s = copF back j s
  | 0, 0, s, _, _ => rfl
  | 0, j + 1, s, h, _ => by simp only [copF]; rw [if_pos (by omega)]
  | k + 1, 0, s, _, h => by simp only [copF]; rw [if_pos (by omega)]
  | k + 1, j + 1, s, h1, h2 => by
    simp only [copF]
    by_cases hz : s = 0
    · rw [if_pos hz, if_pos hz]
    · have := fstN_le s
      rw [if_neg hz, if_neg hz, copF_far back k j (s - fstN s) (by omega) (by omega)]
def copB (s back : Nat) : List Nat := copF back s s
theorem copB_eq (s back : Nat) : copB s back = if s = 0 then [] else copyB (fstN s) back ++ copB (s - fstN s) back := by
  show copF back s s = if s = 0 then [] else copyB (fstN s) back ++ copF back (s - fstN s) (s - fstN s)
  rw [copF_far back s (s + 1) s (Nat.le_refl _) (Nat.le_succ _)]
  simp only [copF]
  by_cases hz : s = 0
  · rw [if_pos hz, if_pos hz]
  · rw [if_neg hz, if_neg hz, copF_far back s (s - fstN s) (s - fstN s) (by omega) (Nat.le_refl _)]

theorem copyB_len (s back : Nat) : 1 ≤ (copyB s back).length ∧ (copyB s back).length ≤ 5 := by
  unfold copyB
  split
  · simp
  split <;> simp

/-- what is left of so many bytes is again so many as can be copied -/
def Fine (s : Nat) : Prop := s = 0 ∨ 4 ≤ s
theorem Fine.next {s : Nat} (h : 4 ≤ s) : Fine (s - fstN s) ∧ 4 ≤ fstN s := by
  unfold Fine fstN
  split
  · omega
  split <;> omega

set_option maxRecDepth 100000 in
set_option maxHeartbeats 1000000 in
theorem layCopies_any (w : World) (B s back : Nat) (out : List Nat) (hs : 4 ≤ s) (hs2 : s ≤ 1048576) (hb : back ≤ 1048576) (hl : out.length ≤ 4194304) (h : Wr w B out) :
    Calls Try.prog 30 #[.func (.func 25) #[] #[.pointer (some ⟨B, 0, none⟩)], .int .i64 s, .int .i64 back] w fun e w' => e = .returned (.tuple #[]) ∧ Wr w' B (out ++ copB s back) ∧ WF B w w' := by
  refine calls_of fun Q HQ => ?_
  have QOK : ∀ w', Hid (Wr w' B (out ++ copB s back)) → WF B w w' → Q (.returned (.tuple #[])) w' := fun w' h1 h2 => HQ _ _ ⟨rfl, h1, h2⟩
  clear HQ
  have CP := fun w2 s2 k1 k2 => copyPart_any w2 s2 back k1 k2 hb
  obtain ⟨bk, hbk⟩ : ∃ bk : Int, bk = (back : Int) := ⟨_, rfl⟩
  rw [← hbk] at CP ⊢
  clear hbk
  go_enter Try.func30, Try.ntmps30
  go_wp2_with fail
  go_loopw [1] (fun sv wr => ∃ (m : Nat) (o : List Nat), sv = .int .i64 (m : Int) ∧ m ≤ 1048576 ∧ Hid (Fine m ∧ Wr wr B o ∧ o ++ copB m back = out ++ copB s back ∧ o.length + 5 * m ≤ out.length + 5 * s) ∧ WF B w wr) (fun sv _ => (intOf sv).toNat)
  case atStart => exact ⟨s, out, rfl, hs2, ⟨.inr hs, h, rfl, Nat.le_refl _⟩, WF.refl _ _⟩
  case round =>
    obtain ⟨m, o, rfl, hm, HW, hf⟩ := hrel
    obtain ⟨w0, w1, w2, w3⟩ := HW.out
    by_cases hz : m = 0
    · subst hz
      have HWX : Hid (Wr wr B (out ++ copB s back)) := by
        rw [← w2, copB_eq, if_pos rfl, List.append_nil]
        exact w1
      clear HW w1 w2 w3 h
      go_wp2_with fail
      go_end0
      exact QOK _ HWX hf
    · have hm4 : 4 ≤ m := by rcases w0 with h | h <;> omega
      obtain ⟨f1, f2⟩ := Fine.next hm4
      have hfl := fstN_le m
      have FO := firstOf_any wr m hm
      obtain ⟨f, hfd⟩ : ∃ f, f = fstN m := ⟨_, rfl⟩
      have HE : Hid ((o ++ copyB f back) ++ copB (m - f) back = out ++ copB s back) := by
        show _ = _
        rw [← w2]
        conv => rhs; rw [copB_eq, if_neg hz]
        rw [List.append_assoc, hfd]
      rw [← hfd] at f1 f2 hfl FO
      have C := CP wr f f2 hfl.2.1
      have hcl := copyB_len f back
      have K := lay_new wr B o (copyB f back) (by omega) w1
      have hm' : (0 : Int) < (m : Int) := by omega
      obtain ⟨d, hd⟩ : ∃ d, d = m - f := ⟨_, rfl⟩
      have hdi : (m : Int) - (f : Int) = (d : Int) := by omega
      rw [← hd] at f1 HE
      have hdm : d < m := by omega
      have hdl : d + 1 ≤ m := by omega
      have HLN : Hid ((o ++ copyB f back).length + 5 * d ≤ out.length + 5 * s) := by show _ ≤ _; rw [List.length_append]; omega
      generalize copyB f back = cb at *
      clear HW w1 w2 w3 h hfd hd w0
      go_wp2_with fail
      refine FO.mono ?_
      rintro e wx ⟨rfl, hwx⟩
      obtain rfl := hwx.symm
      go_wp2_with fail
      refine C.mono ?_
      rintro e wx ⟨rfl, hwx⟩
      subst hwx
      go_wp2_with fail
      refine K.mono ?_
      rintro e wy ⟨rfl, hwy, hfy⟩
      go_wp2_with fail
      go_roundw
      case rel => exact ⟨d, o ++ cb, rfl, by omega, ⟨f1, hwy, HE.out, HLN.out⟩, hf.trans hfy⟩
      case measure => simp [intOf]; omega

/-- how many are the same in front of both -/
def alikeN : List Nat → List Nat → Nat
  | c :: a, d :: b => if c = d then alikeN a b + 1 else 0
  | _, _ => 0
theorem alikeN_le : ∀ (a b : List Nat), alikeN a b ≤ b.length
  | [], b => by cases b <;> simp [alikeN]
  | c :: a, [] => by simp [alikeN]
  | c :: a, d :: b => by
    simp only [alikeN]
    split
    · have := alikeN_le a b
      simp
      omega
    · omega
theorem alikeN_take : ∀ (a b : List Nat), a.take (alikeN a b) = b.take (alikeN a b)
  | [], b => by cases b <;> simp [alikeN]
  | c :: a, [] => by simp [alikeN]
  | c :: a, d :: b => by
    simp only [alikeN]
    split
    · rename_i h
      rw [List.take_succ_cons, List.take_succ_cons, alikeN_take a b, h]
    · simp
theorem alikeN_drop : ∀ (a b : List Nat) (i : Nat), i ≤ alikeN a b → alikeN a b = i + alikeN (a.drop i) (b.drop i)
  | a, b, 0, _ => by simp
  | [], b, i + 1, h => by cases b <;> simp [alikeN] at h
  | c :: a, [], i + 1, h => by simp [alikeN] at h
  | c :: a, d :: b, i + 1, h => by
    simp only [alikeN] at h ⊢
    split at h
    · rename_i hc
      rw [if_pos hc, List.drop_succ_cons, List.drop_succ_cons, alikeN_drop a b i (by omega)]
      omega
    · omega

set_option maxRecDepth 100000 in
set_option maxHeartbeats 1000000 in
theorem alike_any (w : World) (a1 a2 : Option Addr) (l1 l2 : List Nat) (c1 c2 : Nat) (h1 : Src w a1 l1.length c1 (c8 l1)) (h2 : Src w a2 l2.length c2 (c8 l2)) (hl : l2.length ≤ l1.length) (hl1 : l1.length ≤ 1048576) :
    Calls Try.prog 35 #[.slice a1 l1.length c1, .slice a2 l2.length c2] w fun e w' => e = .returned (.int .i64 (alikeN l1 l2 : Nat)) ∧ w' = w := by
  refine calls_of fun Q HQ => ?_
  have HK : Hid (∀ n : Nat, n = alikeN l1 l2 → Q (.returned (.int .i64 (n : Int))) w) := fun n e => HQ _ _ ⟨by rw [e], rfl⟩
  clear HQ
  have H1 : Hid (Src w a1 l1.length c1 (c8 l1)) := h1
  have H2 : Hid (Src w a2 l2.length c2 (c8 l2)) := h2
  obtain ⟨L1, hL1⟩ : ∃ L, L = l1.length := ⟨_, rfl⟩
  obtain ⟨L2, hL2⟩ : ∃ L, L = l2.length := ⟨_, rfl⟩
  have HL1 : Hid (L1 = l1.length) := hL1
  have HL2 : Hid (L2 = l2.length) := hL2
  rw [← hL1, ← hL2]
  have hl12 : L2 ≤ L1 := by omega
  have hL1b : L1 ≤ 1048576 := by omega
  clear h1 h2 hL1 hL2 hl hl1
  go_enter Try.func35, Try.ntmps35
  go_wp2_with fail
  go_loop [9] (fun iv => ∃ i : Nat, iv = .int .i64 (i : Int) ∧ i ≤ L2 ∧ Hid (i ≤ alikeN l1 l2)) (fun iv => L2 - (intOf iv).toNat)
  case atStart => exact ⟨0, rfl, Nat.zero_le _, Nat.zero_le _⟩
  case round =>
    obtain ⟨i, rfl, hi, HA⟩ := hrel
    have hd := alikeN_drop l1 l2 i HA.out
    by_cases hlt : i < L2
    · have hlt' : (i : Int) < (L2 : Int) := by omega
      have hlt1' : (i : Int) < (L1 : Int) := by omega
      have q1 : i < l1.length := by rw [← HL1.out]; omega
      have q2 : i < l2.length := by rw [← HL2.out]; omega
      obtain ⟨g1, o1, rfl, k1⟩ := src_at H1.out q1
      obtain ⟨g2, o2, rfl, k2⟩ := src_at H2.out q2
      rw [drop_getD l1 i q1, drop_getD l2 i q2] at hd
      obtain ⟨x, hx⟩ : ∃ x, x = l1.getD i 0 := ⟨_, rfl⟩
      obtain ⟨y, hy⟩ : ∃ y, y = l2.getD i 0 := ⟨_, rfl⟩
      rw [← hx] at k1 hd
      rw [← hy] at k2 hd
      simp only [alikeN] at hd
      by_cases hxy : x = y
      · rw [if_pos hxy] at hd
        have HA2 : Hid (i + 1 ≤ alikeN l1 l2) := by show _ ≤ _; omega
        subst hxy
        clear hd hx hy
        go_wp2_with fail
        go_round
        case rel => exact ⟨i + 1, by go_num, by omega, HA2⟩
        case measure => simp [intOf]; omega
      · rw [if_neg hxy] at hd
        have HE : Hid (i = alikeN l1 l2) := by show _ = _; omega
        have hxy' : ¬ (x : Int) = (y : Int) := by omega
        have hxy'' : ¬ (y : Int) = (x : Int) := by omega
        clear hd hx hy
        go_wp2_with fail
        exact HK.out i HE.out
    · have hge : ¬ (i : Int) < (L2 : Int) := by omega
      have HE : Hid (L2 = alikeN l1 l2) := by
        show _ = _
        have := alikeN_le l1 l2
        rw [← HL2.out] at this
        have := HA.out
        omega
      clear hd
      go_wp2_with fail
      exact HK.out L2 HE.out
end Go.Proofs.Ytkkignjenjdjiaa
