/-
  The reference's Text.
-/
import Derived.Test.YtndeglamnnipoaaDoorHxS
namespace Go.Proofs.YtndeglamnnipoaaDoor
set_option linter.unusedVariables false
set_option linter.unusedSimpArgs false
open Go.ChangeShapes Go.WideShapes Go.ChangeAt Go.RowKit

set_option maxRecDepth 100000 in
set_option maxHeartbeats 2000000 in
theorem rtext_any (k n : Int) (s : ByteArray) (w : World) (hw : (Lit.int .i64 n).wf = true) (hs : s.size ≤ 2000) (ht : Tabs w) : Calls Tryd.prog 5 #[.agg #[.int .i64 k, .int .i64 n, .string s]] w fun e w' => e = .returned (.string (tT k n s)) ∧ Below w.heap.size w w' := by
  by_cases h67 : (k = 6 ∨ k = 7) ∧ fineB k n s.size = true
  · obtain ⟨h67, hf⟩ := h67
    have e : tT k n s = tx (qo (nb s) ++ [34]) := by
      unfold tT
      rw [if_neg (by simp [hf]), if_neg (by omega), if_neg (by omega), if_neg (by omega), if_pos h67]
    rw [e]
    exact rquo_any k n s w h67 hf hw hs ht
  have hn : -9223372036854775808 ≤ n ∧ n ≤ 9223372036854775807 := by simpa [Lit.wf, IntKind.min, IntKind.max, IntKind.signed, IntKind.bits] using hw
  obtain ⟨i0, hi, hz0, hz1, hz2⟩ := info_parts infoU8
  have hx0 : (w.alloc (.cells #[.int .i64 k, .int .i64 n, .string s] 24)).heap[w.heap.size]? = some (.cells #[.int .i64 k, .int .i64 n, .string s] 24 (0, 0)) := heap_new _ _
  have b0 : Below w.heap.size w (w.alloc (.cells #[.int .i64 k, .int .i64 n, .string s] 24)) := alloc_below _ _
  have HT : Hid (Tabs w) := ht
  have CF := fun W => rfine_any k n s hw W
  obtain ⟨T, hT⟩ : ∃ T, tT k n s = T := ⟨_, rfl⟩
  rw [hT]
  unfold tT at hT
  have HS : Hid (s.size ≤ 2000) := hs
  have HN : Hid (-9223372036854775808 ≤ n ∧ n ≤ 9223372036854775807) := hn
  clear hw hn ht hs
  cases hf : fineB k n s.size
  · rw [if_pos hf] at hT
    subst hT
    rw [hf] at CF
    clear hf
    go_enter Tryd.func5, Tryd.ntmps5
    go_wp2_with fail
    generalize w.alloc (.cells #[.int .i64 k, .int .i64 n, .string s] 24) = W0 at *
    refine (CF W0).mono ?_
    rintro e W1 ⟨rfl, hb1⟩
    have hx1 := below_at hb1 hx0
    obtain ⟨⟨c0, c1, c2⟩, _⟩ := blk3 hx1
    have b1 := b0.trans (hb1.mono b0.size)
    clear hx0 b0 hb1 CF
    go_wp2_with fail
    go_ret
    exact ⟨rfl, b1⟩
  have h67 : ¬ (k = 6 ∨ k = 7) := fun h => h67 ⟨h, hf⟩
  rw [if_neg (by simp [hf])] at hT
  rw [hf] at CF
  clear hf
  by_cases h0 : k = 0
  · subst h0
    rw [if_pos rfl] at hT
    by_cases h1 : n = 1
    · subst h1
      have HTt : Hid (({ data := #[116, 114, 117, 101] } : ByteArray) = T) := hT
      clear hT
      go_enter Tryd.func5, Tryd.ntmps5
      go_wp2_with fail
      generalize w.alloc (.cells #[.int .i64 0, .int .i64 1, .string s] 24) = W0 at *
      refine (CF W0).mono ?_
      rintro e W1 ⟨rfl, hb1⟩
      have hx1 := below_at hb1 hx0
      obtain ⟨⟨c0, c1, c2⟩, _⟩ := blk3 hx1
      have b1 := b0.trans (hb1.mono b0.size)
      clear hx0 b0 hb1 CF
      go_wp2_with fail
      go_ret
      exact ⟨by rw [← HTt.out]; rfl, b1⟩
    · have h1' : (n == 1) = false := by simpa using h1
      rw [h1'] at hT
      have HTt : Hid (({ data := #[102, 97, 108, 115, 101] } : ByteArray) = T) := hT
      clear hT
      go_enter Tryd.func5, Tryd.ntmps5
      go_wp2_with fail
      generalize w.alloc (.cells #[.int .i64 0, .int .i64 n, .string s] 24) = W0 at *
      refine (CF W0).mono ?_
      rintro e W1 ⟨rfl, hb1⟩
      have hx1 := below_at hb1 hx0
      obtain ⟨⟨c0, c1, c2⟩, _⟩ := blk3 hx1
      have b1 := b0.trans (hb1.mono b0.size)
      clear hx0 b0 hb1 CF
      go_wp2_with fail
      go_ret
      exact ⟨by rw [← HTt.out]; rfl, b1⟩
  rw [if_neg h0] at hT
  by_cases h4 : k = 4
  · subst h4
    rw [if_pos rfl] at hT
    have HTt : Hid (tx ([120] ++ hx 8 (IntKind.u64.wrap n).toNat) = T) := hT
    clear hT h0
    go_enter Tryd.func5, Tryd.ntmps5
    go_wp2_with fail
    generalize w.alloc (.cells #[.int .i64 4, .int .i64 n, .string s] 24) = W0 at *
    refine (CF W0).mono ?_
    rintro e W1 ⟨rfl, hb1⟩
    have hx1 := below_at hb1 hx0
    obtain ⟨⟨c0, c1, c2⟩, _⟩ := blk3 hx1
    have b1 := b0.trans (hb1.mono b0.size)
    clear hx0 b0 hb1 CF
    have RH := rhex_any (IntKind.u64.wrap n) (IntKind.u64.wrap n).toNat 8 (wrap_u64_nat n).1 (wrap_u64_nat n).2 (by omega) W1
    have R2 : ¬ 9223372036854775807 < ({ data := #[120] } : ByteArray).size + (tx (hx 8 (IntKind.u64.wrap n).toNat)).size := by rw [tx_size, hx_len]; exact fun h => absurd h (by decide)
    have HE := add_x (hx 8 (IntKind.u64.wrap n).toNat)
    generalize tx (hx 8 (IntKind.u64.wrap n).toNat) = H at *
    have HEh : Hid (_ = _) := HE
    clear HE
    go_wp2_with fail
    refine RH.mono ?_
    rintro e W2 ⟨rfl, hw2⟩
    obtain rfl := hw2.symm
    go_wp2_with fail
    go_ret
    exact ⟨by rw [← HTt.out, ← HEh.out]; rfl, b1⟩
  rw [if_neg h4] at hT
  by_cases h5 : k = 5
  · subst h5
    rw [if_pos rfl] at hT
    have HTt : Hid (tx ([120] ++ hx 16 (IntKind.u64.wrap n).toNat) = T) := hT
    clear hT h0
    go_enter Tryd.func5, Tryd.ntmps5
    go_wp2_with fail
    generalize w.alloc (.cells #[.int .i64 5, .int .i64 n, .string s] 24) = W0 at *
    refine (CF W0).mono ?_
    rintro e W1 ⟨rfl, hb1⟩
    have hx1 := below_at hb1 hx0
    obtain ⟨⟨c0, c1, c2⟩, _⟩ := blk3 hx1
    have b1 := b0.trans (hb1.mono b0.size)
    clear hx0 b0 hb1 CF
    have RH := rhex_any (IntKind.u64.wrap n) (IntKind.u64.wrap n).toNat 16 (wrap_u64_nat n).1 (wrap_u64_nat n).2 (by omega) W1
    have R2 : ¬ 9223372036854775807 < ({ data := #[120] } : ByteArray).size + (tx (hx 16 (IntKind.u64.wrap n).toNat)).size := by rw [tx_size, hx_len]; exact fun h => absurd h (by decide)
    have HE := add_x (hx 16 (IntKind.u64.wrap n).toNat)
    generalize tx (hx 16 (IntKind.u64.wrap n).toNat) = H at *
    have HEh : Hid (_ = _) := HE
    clear HE
    go_wp2_with fail
    refine RH.mono ?_
    rintro e W2 ⟨rfl, hw2⟩
    obtain rfl := hw2.symm
    go_wp2_with fail
    go_ret
    exact ⟨by rw [← HTt.out, ← HEh.out]; rfl, b1⟩
  rw [if_neg h5] at hT
  rw [if_neg h67] at hT
  have HTt : Hid ((⟨(Lib.itoa n).toArray⟩ : ByteArray) = T) := hT
  clear hT
  have g0 : (k == 0) = false := by simpa using h0
  have g4 : (k == 4) = false := by simpa using h4
  have g5 : (k == 5) = false := by simpa using h5
  have g6 : (k == 6) = false := by simp; omega
  have g7 : (k == 7) = false := by simp; omega
  clear h67 h0 h4 h5
  go_enter Tryd.func5, Tryd.ntmps5
  go_wp2_with fail
  generalize w.alloc (.cells #[.int .i64 k, .int .i64 n, .string s] 24) = W0 at *
  refine (CF W0).mono ?_
  rintro e W1 ⟨rfl, hb1⟩
  have hx1 := below_at hb1 hx0
  obtain ⟨⟨c0, c1, c2⟩, _⟩ := blk3 hx1
  have b1 := b0.trans (hb1.mono b0.size)
  clear hx0 b0 hb1 CF
  have FI := formatInt_any n HN.out.1 HN.out.2 W1 (HT.out.later b1)
  go_wp2_with fail
  refine FI.mono ?_
  rintro e W2 ⟨rfl, hb2⟩
  go_wp2_with fail
  go_ret
  exact ⟨by rw [← HTt.out]; rfl, b1.trans (hb2.mono b1.size)⟩
end Go.Proofs.YtndeglamnnipoaaDoor
