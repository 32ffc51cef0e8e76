/-
  The reference's numbers as bytes.
-/
import Derived.Test.YtikoddlidhefpaaJ3
import Derived.Test.YtikoddlidhefpaaWrC
namespace Go.Proofs.Ytikoddlidhefpaa
set_option linter.unusedVariables false
set_option linter.unusedSimpArgs false
open Go.ChangeShapes Go.WideShapes Go.ChangeAt Go.RowKit Go.Deep

theorem rturned_any (n : Int) (w : World) (h : i64ok n) : Calls Try.prog 35 #[.int .i64 n] w fun e w' => e = .returned (.int .u64 (zig n : Nat)) ∧ w' = w := by
  have hz := zig_zz h
  obtain ⟨h0, h1⟩ := h
  unfold zz at hz
  by_cases hs : 0 ≤ n
  · rw [if_pos hs] at hz
    have hz1 : (2 : Int) * n = ((zig n : Nat) : Int) := hz.1.symm
    generalize zig n = z at *
    have hz2 : (z : Int) ≤ 18446744073709551615 := by omega
    clear hz
    go_enter Try.func35, Try.ntmps35
    go_wp2
    go_ret
    exact ⟨by first | rfl | (rw [hz1]; rfl), rfl⟩
  · rw [if_neg hs] at hz
    have hs' : n < 0 := by omega
    obtain ⟨q, hq⟩ : ∃ q : Nat, -(n + 1) = (q : Int) := ⟨(-(n + 1)).toNat, by omega⟩
    have hz1 : (2 : Int) * (q : Int) + 1 = ((zig n : Nat) : Int) := by omega
    generalize zig n = z at *
    have hz2 : (z : Int) ≤ 18446744073709551615 := by omega
    have hq2 : (q : Int) ≤ 9223372036854775807 := by omega
    clear hz
    go_enter Try.func35, Try.ntmps35
    go_wp2
    go_ret
    exact ⟨by first | rfl | (rw [hz1]; rfl), rfl⟩
end Go.Proofs.Ytikoddlidhefpaa

/-
  The reference's numbers as bytes: its Number answers a row of its own.
-/
namespace Go.Proofs.Ytikoddlidhefpaa
set_option linter.unusedVariables false
set_option linter.unusedSimpArgs false
open Go.ChangeShapes Go.WideShapes Go.ChangeAt Go.RowKit Go.Deep

/-- a row of bytes that a call made -/
def Gives8 (w : World) (l : List Nat) (e : Ending) (w' : World) : Prop := ∃ ad c, e = .returned (.slice ad l.length c) ∧ w'.ownsRow w.heap.size 5 1 (.slice ad l.length c) l.length (c8 l) ∧ Below w.heap.size w w'

set_option maxRecDepth 10000 in
set_option maxHeartbeats 1000000 in
theorem rnumber_any (w : World) (n : Nat) (hn : n < 18446744073709551616) :
    Calls Try.prog 34 #[.int .u64 n] w (Gives8 w (numB n)) := by
  obtain ⟨i0, hi, hz0, hz1, hz2⟩ := info_parts infoU8
  have hn' : (n : Int) ≤ 18446744073709551615 := by omega
  go_enter Try.func34, Try.ntmps34
  go_wp2_with fail
  go_loopw [0, 3] (fun nv bv wr => ∃ (f m : Nat) (done : List Nat), nv = .int .u64 m ∧ Hid (m < 128 ^ f * 2 ∧ f ≤ 9 ∧ m < 18446744073709551616 ∧ done.length + f = 9) ∧ Hid (done ++ numF f m = numB n) ∧ Hid (wr.ownsRow w.heap.size 5 1 bv done.length (c8 done)) ∧ Hid (Below w.heap.size w wr)) (fun nv _ _ => (intOf nv).toNat)
  case atStart => exact ⟨9, n, [], rfl, ⟨by omega, by omega, hn, rfl⟩, rfl, World.ownsRow_nil w _ 5 1, Below.refl _ _⟩
  case round =>
    obtain ⟨f, m, done, rfl, HM, HE, HW, HB⟩ := hrel
    obtain ⟨ad0, cc0, rfl⟩ := own_sl HW.out
    obtain ⟨m1, m2, m3, m4⟩ := HM.out
    have m3' : (m : Int) ≤ 18446744073709551615 := by omega
    have HL : Hid (done.length + 1 ≤ maxLen ∧ (done.length + 1) * 1 ≤ 140737488355328) := ⟨by unfold maxLen; omega, by omega⟩
    by_cases hlt : m < 128
    · have hlt' : (m : Int) < 128 := by omega
      have HE' : Hid (done ++ [m] = numB n) := by
        show _ = _
        rw [← HE.out]
        cases f with
        | zero => rfl
        | succ f => simp [numF, hlt]
      have HA : Hid (w.heap.size ≤ (wr.alloc (.cells #[.int .u8 (m : Int)] 5)).heap.size) := by show _ ≤ _; have := HB.out.size; simp; omega
      have HST : Hid (∀ v1 W1, W1.ownsRow w.heap.size 5 1 v1 (done.length + 1) (c8 done ++ [.int .u8 (m : Int)]) → (wr.alloc (.cells #[.int .u8 (m : Int)] 5)).grownBy W1 (Value.ownBlock (.slice ad0 done.length cc0)) → Gives8 w (numB n) (.returned v1) W1) := by
        intro v1 W1 ho hg
        have hb : Below w.heap.size w W1 := (HB.out.alloc HB.out.size _).grown hg HA.out (fun k hk => (HW.out.lt k hk).1)
        obtain ⟨ad, cc, rfl⟩ := own_sl ho
        refine ⟨ad, cc, ?_, ?_, hb⟩
        · rw [← HE'.out]; simp
        · rw [← HE'.out]
          simpa [c8] using ho
      clear HE HE' m1 m3 HM
      go_wp2_with (at_builtin; refine wpList_append_own _ rfl (.tmp 15) (.tmp 18) 37 rfl w.heap.size 5 i0 (.int .u8 0) 1 1 Try.underlying37 hi hz0 hz1 hz2 rfl (by decide) _ done.length (c8 done) rfl (HW.out.alloc _) ⟨wr.heap.size, 0, none⟩ 1 1 [.int .u8 (m : Int)] rfl rfl (new_news wr [.int .u8 (m : Int)] 5 (0, 0)) (c8_one [m]) HL.out.1 HL.out.2 HA.out ?_; intro v1 W1 hown1 hg1 _; have HS : Hid _ := HST.out v1 W1 hown1 hg1; clear hown1 hg1)
      go_ret
      exact HS.out
    · have hlt' : (128 : Int) ≤ (m : Int) := by omega
      obtain ⟨f, rfl⟩ : ∃ g, f = g + 1 := by
        cases f with
        | zero => simp at m1; omega
        | succ f => exact ⟨f, rfl⟩
      have HE' : Hid ((done ++ [m % 128 + 128]) ++ numF f (m / 128) = numB n) := by
        show _ = _
        rw [← HE.out]
        simp [numF, hlt]
      have HM' : Hid (m / 128 < 128 ^ f * 2 ∧ f ≤ 9 ∧ m / 128 < 18446744073709551616 ∧ (done ++ [m % 128 + 128]).length + f = 9) := by
        refine ⟨?_, by omega, by omega, by simp; omega⟩
        rw [Nat.pow_succ] at m1
        generalize 128 ^ f = z at *
        omega
      have HMS : Hid (m / 128 < m) := by show _ < _; omega
      obtain ⟨q, hq⟩ : ∃ q : Nat, q = m / 128 := ⟨_, rfl⟩
      obtain ⟨z, hz⟩ : ∃ z : Nat, z = m % 128 + 128 := ⟨_, rfl⟩
      have o3 : (m : Int) / 128 = (q : Int) := by omega
      obtain ⟨r, hr⟩ : ∃ r : Nat, r = m % 128 := ⟨_, rfl⟩
      have o1 : (m : Int) % 128 = (r : Int) := by omega
      have o2 : (128 : Int) + (r : Int) = (z : Int) := by omega
      have z1 : (z : Int) ≤ 255 := by omega
      rw [← hq, ← hz] at HE' HM'
      rw [← hq] at HMS
      have HA : Hid (w.heap.size ≤ (wr.alloc (.cells #[.int .u8 (z : Int)] 5)).heap.size) := by show _ ≤ _; have := HB.out.size; simp; omega
      have HST : Hid (∀ v1 W1, W1.ownsRow w.heap.size 5 1 v1 (done.length + 1) (c8 done ++ [.int .u8 (z : Int)]) → (wr.alloc (.cells #[.int .u8 (z : Int)] 5)).grownBy W1 (Value.ownBlock (.slice ad0 done.length cc0)) → W1.ownsRow w.heap.size 5 1 v1 (done ++ [z]).length (c8 (done ++ [z])) ∧ Below w.heap.size w W1) := by
        intro v1 W1 ho hg
        have hb : Below w.heap.size w W1 := (HB.out.alloc HB.out.size _).grown hg HA.out (fun k hk => (HW.out.lt k hk).1)
        exact ⟨by simpa [c8] using ho, hb⟩
      clear HE m1 m3 HM hq hz hr
      go_wp2_with (at_builtin; refine wpList_append_own _ rfl (.tmp 6) (.tmp 11) 37 rfl w.heap.size 5 i0 (.int .u8 0) 1 1 Try.underlying37 hi hz0 hz1 hz2 rfl (by decide) _ done.length (c8 done) rfl (HW.out.alloc _) ⟨wr.heap.size, 0, none⟩ 1 1 [.int .u8 (z : Int)] rfl rfl (new_news wr [.int .u8 (z : Int)] 5 (0, 0)) (c8_one [z]) HL.out.1 HL.out.2 HA.out ?_; intro v1 W1 hown1 hg1 _; have HS : Hid _ := HST.out v1 W1 hown1 hg1; clear hown1 hg1)
      go_roundw
      case rel => exact ⟨f, q, done ++ [z], rfl, HM', HE', HS.out.1, HS.out.2⟩
      case measure => have := HMS.out; simp [intOf]; omega
end Go.Proofs.Ytikoddlidhefpaa
