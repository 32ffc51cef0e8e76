/-
For any two values (of at most 3000 values, numbers and bytes each), any bytes behind and any cut: a structure is read as it was written, whatever stands behind, each shorter beginning is too short, and unlike structures have unlike bytes, none of which begin others. No condition.
-/
import Derived.Test.YtikoddlidhefpaaRows
import Derived.Test.YtikoddlidhefpaaFrame
import Derived.Test.YtikoddlidhefpaaFrameT
import Derived.Test.YtikoddlidhefpaaLawB
import Derived.WalkKit
import Derived.ProofKit
import Derived.OpenShut
import Derived.ShutString
import Derived.ChangeOld
import Derived.Below
import Derived.Lib.QuietBelow
import Derived.BigQuiet
namespace Go.Proofs.Ytikoddlidhefpaa.thriftBack
open Go.ChangeShapes Go.WideShapes Go.ChangeAt Go.RowKit Go.Deep Go.Sort
set_option linter.unusedVariables false
set_option linter.unusedSimpArgs false

set_option maxRecDepth 100000 in
set_option maxHeartbeats 20000000 in
theorem walk (y0 : Pay) (c0 : Fo) (ia0 : Option Addr) (ic0 : Nat) (la0 : Option Addr) (lc0 : Nat) (y1 : Pay) (c1 : Fo) (ia1 : Option Addr) (ic1 : Nat) (la1 : Option Addr) (lc1 : Nat) (a2 : Option Addr) (len2 cap2 : Nat) (z2 : List Int) (k2 : Int) (w : World) (w0 : VIn w y0 c0 ia0 ic0 la0 lc0) (w1 : VIn w y1 c1 ia1 ic1 la1 lc1) (w2 : IsRow .u8 w a2 len2 cap2 z2) (j2 : (Lit.int .i64 k2).wf = true) :
    Calls Try.prog 8 #[val y0 c0 ia0 ic0 la0 lc0, val y1 c1 ia1 ic1 la1 lc1, .agg #[.slice a2 len2 cap2, .int .i64 k2]] w fun e w' => e = .returned (.bool true) ∧ Below w.heap.size w w' := by
  obtain ⟨i0, hi, hz0, hz1, hz2⟩ := infoU8'
  obtain ⟨hbA, hxA, hxB, hxC, hsA⟩ := three_boxes w (.cells #[.int .i64 y0.kind, .int .i64 y0.key, .int .i64 y0.elem, .int .i64 y0.num, .string y0.text, .slice ia0 y0.ids.length ic0, .slice la0 (flen c0) lc0] 26) (.cells #[.int .i64 y1.kind, .int .i64 y1.key, .int .i64 y1.elem, .int .i64 y1.num, .string y1.text, .slice ia1 y1.ids.length ic1, .slice la1 (flen c1) lc1] 26) (.cells #[.slice a2 len2 cap2, .int .i64 k2] 51)
  have i2 : ((((bx w y0 c0 ia0 ic0 la0 lc0).alloc (.cells #[.int .i64 y1.kind, .int .i64 y1.key, .int .i64 y1.elem, .int .i64 y1.num, .string y1.text, .slice ia1 y1.ids.length ic1, .slice la1 (flen c1) lc1] 26)).alloc (.cells #[.slice a2 len2 cap2, .int .i64 k2] 51))).cell? ⟨w.heap.size + 1 + 1, 0, none⟩ = some (.slice a2 len2 cap2) := cell_of_block hxC rfl
  have i3 : ((((bx w y0 c0 ia0 ic0 la0 lc0).alloc (.cells #[.int .i64 y1.kind, .int .i64 y1.key, .int .i64 y1.elem, .int .i64 y1.num, .string y1.text, .slice ia1 y1.ids.length ic1, .slice la1 (flen c1) lc1] 26)).alloc (.cells #[.slice a2 len2 cap2, .int .i64 k2] 51))).cell? ⟨w.heap.size + 1 + 1, 1, none⟩ = some (.int .i64 k2) := cell_of_block hxC rfl
  have HMB : Hid (∀ q, Below w.heap.size w (((((bx w y0 c0 ia0 ic0 la0 lc0).alloc (.cells #[.int .i64 y1.kind, .int .i64 y1.key, .int .i64 y1.elem, .int .i64 y1.num, .string y1.text, .slice ia1 y1.ids.length ic1, .slice la1 (flen c1) lc1] 26)).alloc (.cells #[.slice a2 len2 cap2, .int .i64 k2] 51))).drewN q) ∧ (((((bx w y0 c0 ia0 ic0 la0 lc0).alloc (.cells #[.int .i64 y1.kind, .int .i64 y1.key, .int .i64 y1.elem, .int .i64 y1.num, .string y1.text, .slice ia1 y1.ids.length ic1, .slice la1 (flen c1) lc1] 26)).alloc (.cells #[.slice a2 len2 cap2, .int .i64 k2] 51))).drewN q).heap[w.heap.size]? = some (.cells #[.int .i64 y0.kind, .int .i64 y0.key, .int .i64 y0.elem, .int .i64 y0.num, .string y0.text, .slice ia0 y0.ids.length ic0, .slice la0 (flen c0) lc0] 26 (0, 0)) ∧ (((((bx w y0 c0 ia0 ic0 la0 lc0).alloc (.cells #[.int .i64 y1.kind, .int .i64 y1.key, .int .i64 y1.elem, .int .i64 y1.num, .string y1.text, .slice ia1 y1.ids.length ic1, .slice la1 (flen c1) lc1] 26)).alloc (.cells #[.slice a2 len2 cap2, .int .i64 k2] 51))).drewN q).heap[w.heap.size + 1]? = some (.cells #[.int .i64 y1.kind, .int .i64 y1.key, .int .i64 y1.elem, .int .i64 y1.num, .string y1.text, .slice ia1 y1.ids.length ic1, .slice la1 (flen c1) lc1] 26 (0, 0))) := fun q => ⟨below_drewN hbA q, below_at (below_drewN (Below.refl _ _) q) hxA, below_at (below_drewN (Below.refl _ _) q) hxB⟩
  clear hbA hxA hxB hxC hsA
  have HV0 : Hid (VIn w y0 c0 ia0 ic0 la0 lc0) := w0
  have HV1 : Hid (VIn w y1 c1 ia1 ic1 la1 lc1) := w1
  obtain ⟨m, hm, m8, ms⟩ := row_nat w2
  have HT : Hid (Src w a2 len2 cap2 (c8 m) ∧ m.length = len2) := ⟨ms, hm⟩
  clear w0 w1 w2 ms hm
  go_enter Try.func8, Try.ntmps8
  go_wp2_with fail
  go_quiet (fail)
  obtain ⟨hb0, hx0, hx1⟩ := HMB.out nq
  generalize ((((bx w y0 c0 ia0 ic0 la0 lc0).alloc (.cells #[.int .i64 y1.kind, .int .i64 y1.key, .int .i64 y1.elem, .int .i64 y1.num, .string y1.text, .slice ia1 y1.ids.length ic1, .slice la1 (flen c1) lc1] 26)).alloc (.cells #[.slice a2 len2 cap2, .int .i64 k2] 51))).drewN nq = W0 at *
  clear HMB i2 i3
  obtain ⟨⟨p0, p1, p2, p3, p4, p5, p6⟩, _⟩ := blk7 hx0
  have SZ0 := size_any y0 c0 W0 ia0 ic0 la0 lc0 3000 (HV0.out.later hb0) (by omega) (by omega)
  obtain ⟨s0, HS0⟩ : ∃ s, Hid (szL c0 (1 + y0.text.size + y0.ids.length) 3000 = s) := ⟨_, rfl⟩
  rw [HS0.out] at SZ0
  go_wp2_with fail
  refine SZ0.mono ?_
  rintro e W1 ⟨rfl, hbx⟩
  have hb1 := hb0.trans (hbx.mono hb0.size)
  have hy0 := below_at hbx hx0
  have hy1 := below_at hbx hx1
  clear SZ0 hbx hx0 hx1 p0 p1 p2 p3 p4 p5 p6 hb0
  by_cases c : 3000 < s0
  · go_wp2_with fail
    refine (works_any _).mono ?_
    rintro e W9 ⟨rfl, hb9⟩
    go_wp2_with fail
    go_ret
    exact ⟨rfl, hb1.trans (hb9.mono hb1.size)⟩
  have c' : s0 ≤ 3000 := by omega
  obtain ⟨⟨p0, p1, p2, p3, p4, p5, p6⟩, _⟩ := blk7 hy1
  have SZ1 := size_any y1 c1 W1 ia1 ic1 la1 lc1 3000 (HV1.out.later hb1) (by omega) (by omega)
  obtain ⟨s1, HS1⟩ : ∃ s, Hid (szL c1 (1 + y1.text.size + y1.ids.length) 3000 = s) := ⟨_, rfl⟩
  rw [HS1.out] at SZ1
  go_wp2_with fail
  refine SZ1.mono ?_
  rintro e W2 ⟨rfl, hbx⟩
  have hb2 := hb1.trans (hbx.mono hb1.size)
  have hx0 := below_at hbx hy0
  have hx1 := below_at hbx hy1
  clear SZ1 hbx hy0 hy1 p0 p1 p2 p3 p4 p5 p6 hb1
  by_cases d : 3000 < s1
  · go_wp2_with fail
    refine (works_any _).mono ?_
    rintro e W9 ⟨rfl, hb9⟩
    go_wp2_with fail
    go_ret
    exact ⟨rfl, hb2.trans (hb9.mono hb2.size)⟩
  have d' : s1 ≤ 3000 := by omega
  by_cases g : 3000 < len2
  · have g' : (3000 : Int) < (len2 : Int) := by omega
    go_wp2_with fail
    refine (works_any _).mono ?_
    rintro e W9 ⟨rfl, hb9⟩
    go_wp2_with fail
    go_ret
    exact ⟨rfl, hb2.trans (hb9.mono hb2.size)⟩
  have g' : (len2 : Int) ≤ 3000 := by omega
  have HB0 : Hid ((valB y0 c0).length ≤ 200000) := (sz_bound (by rw [HS0.out]; exact c')).2
  have HB1 : Hid ((valB y1 c1).length ≤ 200000) := (sz_bound (by rw [HS1.out]; exact d')).2
  obtain ⟨⟨p0, p1, p2, p3, p4, p5, p6⟩, _⟩ := blk7 hx0
  have WR0 := write_some y0 c0 W2 ia0 ic0 la0 lc0 (HV0.out.later hb2) (by have := HB0.out; omega)
  clear c d g
  go_wp2_with fail
  refine WR0.mono ?_
  rintro e W3 ⟨hbx, ⟨hk0, hm0, ba, bc, rfl, hs3, hbc⟩ | ⟨hno0, rfl⟩⟩
  · have hb3 := hb2.trans (hbx.mono hb2.size)
    have hy0 := below_at hbx hx0
    have hy1 := below_at hbx hx1
    clear WR0 p0 p1 p2 p3 p4 p5 p6 hx0 hx1
    obtain ⟨⟨p0, p1, p2, p3, p4, p5, p6⟩, _⟩ := blk7 hy1
    have WR1 := write_some y1 c1 W3 ia1 ic1 la1 lc1 (HV1.out.later hb3) (by have := HB1.out; omega)
    go_wp2_with fail
    refine WR1.mono ?_
    rintro e W4 ⟨hbz, ⟨hk1, hm1, da, dc, rfl, hs4, hdc⟩ | ⟨hno1, rfl⟩⟩
    · have hb4 := hb3.trans (hbz.mono hb3.size)
      have HSB : Hid (Src W4 ba (valB y0 c0).length bc (c8 (valB y0 c0))) := hs3.later hbz
      have hx0 := below_at hbz hy0
      have hx1 := below_at hbz hy1
      have HRD : Hid (rRead (valB y0 c0 ++ m) = .ok ((y0, nt c0), m)) := back_read HV0.out hk0 hm0 m
      have HRC : Hid (∀ k, k < (valB y0 c0).length → rRead ((valB y0 c0).take k) = .error true) := fun k hk => back_cut (by have h := back_read HV0.out hk0 hm0 []; rwa [List.append_nil] at h) hk
      have HM8 : Hid (∀ x ∈ valB y0 c0, x < 256) := valB_b8 HV0.out hm0
      have HSD : Hid (Src W4 da (valB y1 c1).length dc (c8 (valB y1 c1))) := hs4
      have HD8 : Hid (∀ x ∈ valB y1 c1, x < 256) := valB_b8 HV1.out hm1
      have HRD1 : Hid (∀ r, rRead (valB y1 c1 ++ r) = .ok ((y1, nt c1), r)) := fun r => back_read HV1.out hk1 hm1 r
      have HRD0 : Hid (∀ r, rRead (valB y0 c0 ++ r) = .ok ((y0, nt c0), r)) := fun r => back_read HV0.out hk0 hm0 r
      have HP01 : Hid ((valB y0 c0).length < (valB y1 c1).length → (valB y1 c1).take (valB y0 c0).length ≠ valB y0 c0) := fun hl e => by
        have h1 := back_cut (bs := valB y1 c1) (x := (y1, nt c1)) (by have h := HRD1.out []; rwa [List.append_nil] at h) hl
        rw [e] at h1
        have h2 := HRD0.out []
        rw [List.append_nil, h1] at h2
        cases h2
      have HP10 : Hid ((valB y1 c1).length < (valB y0 c0).length → (valB y0 c0).take (valB y1 c1).length ≠ valB y1 c1) := fun hl e => by
        have h1 := back_cut (bs := valB y0 c0) (x := (y0, nt c0)) (by have h := HRD0.out []; rwa [List.append_nil] at h) hl
        rw [e] at h1
        have h2 := HRD1.out []
        rw [List.append_nil, h1] at h2
        cases h2
      have HEQ : Hid (((txt (valB y0 c0)).toList == (txt (valB y1 c1)).toList) = (sameP y0 y1 && sameF c0 c1)) := by
        show _ = _
        rw [Bool.eq_iff_iff]
        constructor
        · intro h
          have h1 := txt_inj HM8.out HD8.out (by simpa using h)
          have h2 := HRD0.out []
          rw [h1, HRD1.out []] at h2
          simp only [Except.ok.injEq, Prod.mk.injEq, and_true] at h2
          rw [h2.1, sameP_refl, same_nt h2.2.symm]
          rfl
        · intro h
          rw [Bool.and_eq_true] at h
          have h1 := sameP_eq h.1
          have h2 := nt_same h.2
          have h3 : valB y0 c0 = valB y1 c1 := by rw [← valB_nt y0 c0, h2, h1, valB_nt]
          rw [h3]
          simp
      obtain ⟨n1, hn1⟩ : ∃ n, n = (valB y1 c1).length := ⟨_, rfl⟩
      have HN1 : Hid (n1 = (valB y1 c1).length ∧ ∀ x ∈ valB y1 c1, x < 256) := ⟨hn1, HD8.out⟩
      have hnb1 : n1 ≤ 200000 := by have := HB1.out; omega
      rw [← hn1] at HSD HP01 HP10 hdc ⊢
      have HDC : Hid (n1 ≤ dc) := hdc
      clear hn1 hs4 hk1 hm1 hdc HRD1 HRD0
      obtain ⟨n0, hn0⟩ : ∃ n, n = (valB y0 c0).length := ⟨_, rfl⟩
      have HN0 : Hid (n0 = (valB y0 c0).length ∧ ∀ x ∈ valB y0 c0, x < 256) := ⟨hn0, HM8.out⟩
      have hnb0 : n0 ≤ 200000 := by have := HB0.out; omega
      rw [← hn0] at HSB HRC HP01 HP10 hbc ⊢
      have HBC : Hid (n0 ≤ bc) := hbc
      have hnb0' : (n0 : Int) ≤ 200000 := by omega
      have hbc' : (n0 : Int) ≤ (bc : Int) := by omega
      clear hn0 hs3 hk0 hm0 WR1
      have HTL : Hid (∀ W', Below W4.heap.size W4 W' → Src W' a2 len2 cap2 (c8 m)) := fun W' h => HT.out.1.later (hb4.trans (h.mono hb4.size))
      have HM : Hid (0 + n0 ≤ maxLen ∧ (0 + n0) * 1 ≤ 140737488355328 ∧ 0 + n0 + len2 ≤ maxLen ∧ (0 + n0 + len2) * 1 ≤ 140737488355328) := ⟨by unfold maxLen; omega, by omega, by unfold maxLen; omega, by omega⟩
      go_wp2_with fail
      refine (num_any 0 _).mono ?_
      rintro e wx ⟨rfl, hwx⟩
      obtain rfl := hwx.symm
      go_wp2_with (first | (at_builtin; refine wpList_append_src rfl (.tmp 57) (.tmp 58) 37 rfl W4.heap.size 5 i0 (.int .u8 0) 1 Try.underlying37 hi hz0 hz1 hz2 rfl _ _ _ rfl (World.ownsRow_made _ _ 0 (Nat.le_refl _) (Nat.zero_le _) rfl) _ _ _ (c8 (valB y0 c0)) rfl (HSB.out.later (alloc_below W4 _)) (c8_one _) HM.out.1 HM.out.2.1 (alloc_below W4 _).size ?_; intro v5 W5 hown5 hb5; have hb05 : Below W4.heap.size W4 W5 := (alloc_below W4 _).trans hb5) | (at_builtin; refine wpList_append_src rfl (.tmp 59) (.tmp 60) 37 rfl W4.heap.size 5 i0 (.int .u8 0) 1 Try.underlying37 hi hz0 hz1 hz2 rfl _ _ _ rfl hown5 _ _ _ (c8 m) rfl (HTL.out _ hb05) (c8_one m) HM.out.2.2.1 HM.out.2.2.2 hb05.size ?_; intro v6 W6 hown6 hb6; have hb06 : Below W4.heap.size W4 W6 := hb05.trans hb6; have HO6 : Hid (W6.ownsRow W4.heap.size 5 1 v6 (n0 + len2) (c8 (valB y0 c0 ++ m))) := (by show World.ownsRow _ _ _ _ _ _ _; have h0 := hown6; rw [Nat.zero_add, List.nil_append, ← c8_append] at h0; exact h0); clear hown6; obtain ⟨ad6, cc6, rfl⟩ := own_sl HO6.out))
      have R2 := read_ok W6 ad6 (n0 + len2) cc6 (valB y0 c0 ++ m) (by rw [List.length_append, ← HN0.out.1, HT.out.2]) (src_own HO6.out).2 (own_cap HO6.out) (by omega) (b8_append HN0.out.2 m8) HRD.out n0 (by rw [HT.out.2])
      refine R2.mono ?_
      rintro e W7 ⟨ja, jc, ka, kc, rfl, hin7, hb7⟩
      have hb47 := hb06.trans (hb7.mono hb06.size)
      have hbw7 := hb4.trans (hb47.mono hb4.size)
      have hbv := alloc_below W7 (.cells #[.int .i64 y0.kind, .int .i64 y0.key, .int .i64 y0.elem, .int .i64 y0.num, .string y0.text, .slice ja y0.ids.length jc, .slice ka (flen (nt c0)) kc] 26)
      have hbw8 := hbw7.trans (hbv.mono hbw7.size)
      have hb48 := hb47.trans (hbv.mono hb47.size)
      have hv8 := heap_new W7 (.cells #[.int .i64 y0.kind, .int .i64 y0.key, .int .i64 y0.elem, .int .i64 y0.num, .string y0.text, .slice ja y0.ids.length jc, .slice ka (flen (nt c0)) kc] 26)
      have hin8 := hin7.later hbv
      have hx08 := below_at hb48 hx0
      have hx18 := below_at hb48 hx1
      have hlt7 := lt_of_heap (below_at hb47 hx0)
      have SM := same_any y0 (nt c0) (W7.alloc (.cells #[.int .i64 y0.kind, .int .i64 y0.key, .int .i64 y0.elem, .int .i64 y0.num, .string y0.text, .slice ja y0.ids.length jc, .slice ka (flen (nt c0)) kc] 26)) ja jc ka kc y0 c0 ia0 ic0 la0 lc0 hin8 (HV0.out.later hbw8)
      rw [sameP_refl, sameF_nt'] at SM
      obtain ⟨⟨o0, o1, o2, o3, o4, o5, o6⟩, _⟩ := blk7 (below_at hb47 hx0)
      clear HO6 hown5 hb5 hb05 hb6 R2 HM HTL hin7 HRD
      go_wp2_with fail
      generalize W7.alloc (.cells #[.int .i64 y0.kind, .int .i64 y0.key, .int .i64 y0.elem, .int .i64 y0.num, .string y0.text, .slice ja y0.ids.length jc, .slice ka (flen (nt c0)) kc] 26) = W8 at *
      refine SM.mono ?_
      rintro e W9 ⟨rfl, hbx9⟩
      have hbw9 := hbw8.trans (hbx9.mono hbw8.size)
      have hb49 := hb48.trans (hbx9.mono hb48.size)
      have hx09 := below_at hbx9 hx08
      have hx19 := below_at hbx9 hx18
      clear o0 o1 o2 o3 o4 o5 o6 SM hx08 hx18 hv8 hin8
      go_wp2_with fail
      refine (num_any 0 _).mono ?_
      rintro e wx ⟨rfl, hwx⟩
      obtain rfl := hwx.symm
      by_cases hcut : 0 ≤ k2 ∧ k2 < (n0 : Int)
      · obtain ⟨kk, rfl⟩ := Int.eq_ofNat_of_zero_le hcut.1
        have hkk : kk < n0 := by omega
        have hkk' : (kk : Int) < (n0 : Int) := by omega
        have hkc : (kk : Int) ≤ (bc : Int) := by omega
        have R3 : Calls Try.prog 21 #[.slice ba kk bc] W9 fun e w' => e = .returned (.tuple #[.agg #[.int .i64 0, .int .i64 0, .int .i64 0, .int .i64 0, .string { data := #[] }, .slice none 0 0, .slice none 0 0], .int .i64 0, .int .i64 6]) ∧ Below W9.heap.size W9 w' := read_no W9 ba kk bc ((valB y0 c0).take kk) (by rw [List.length_take, ← HN0.out.1]; omega) (src_take (HSB.out.later hb49) (by omega)) (by omega) (by omega) (fun x hx => HN0.out.2 x (List.mem_of_mem_take hx)) (HRC.out kk hkk)
        clear HRC hcut
        go_wp2_with fail
        refine R3.mono ?_
        rintro e WA ⟨rfl, hbA⟩
        have hbA2 := hbA.trans ((alloc_below WA (.cells #[.int .i64 0, .int .i64 0, .int .i64 0, .int .i64 0, .string { data := #[] }, .slice none 0 0, .slice none 0 0] 26)).mono hbA.size)
        have hbwB := hbw9.trans (hbA2.mono hbw9.size)
        have hb4B := hb49.trans (hbA2.mono hb49.size)
        have hx0B := below_at hbA2 hx09
        have hx1B := below_at hbA2 hx19
        clear R3 hx09 hx19
        go_wp2_with fail
        refine (num_any 6 _).mono ?_
        rintro e wx ⟨rfl, hwx⟩
        obtain rfl := hwx.symm
        go_wp2_with fail
        generalize WA.alloc (.cells #[.int .i64 0, .int .i64 0, .int .i64 0, .int .i64 0, .string { data := #[] }, .slice none 0 0, .slice none 0 0] 26) = WB at *
        have sB := HSB.out.later hb4B
        have sD := HSD.out.later hb4B
        obtain ⟨⟨o0, o1, o2, o3, o4, o5, o6⟩, _⟩ := blk7 hx0B
        obtain ⟨⟨q0, q1, q2, q3, q4, q5, q6⟩, _⟩ := blk7 hx1B
        have S1 : ∀ d os, Sem.run Try.prog (convert 37 9 (.slice ba n0 bc)) (grow (redrawn WB d) os) = .ok (.string (txt (valB y0 c0))) (grow (redrawn WB d) os) := fun d os => str_src (sB.later (below_regrown WB d os))
        have S2 : ∀ d os, Sem.run Try.prog (convert 37 9 (.slice da n1 dc)) (grow (redrawn WB d) os) = .ok (.string (txt (valB y1 c1))) (grow (redrawn WB d) os) := fun d os => str_src (sD.later (below_regrown WB d os))
        have SA : ∀ d os, Calls Try.prog 26 #[val y0 c0 ia0 ic0 la0 lc0, val y1 c1 ia1 ic1 la1 lc1] (grow (redrawn WB d) os) fun e w'' => e = .returned (.bool (sameP y0 y1 && sameF c0 c1)) ∧ ∃ p : Regrown, w'' = grow (redrawn WB p.d) p.os := fun d os =>
          Calls.regrown_of (same_any y0 c0 (grow (redrawn WB d) os) ia0 ic0 la0 lc0 y1 c1 ia1 ic1 la1 lc1 ((HV0.out.later hbwB).later (below_regrown WB d os)) ((HV1.out.later hbwB).later (below_regrown WB d os)))
        have BG1 : ∀ d os, Calls Try.prog 27 #[.slice ba n0 bc, .slice da n1 dc] (grow (redrawn WB d) os) fun e w'' => e = .returned (.bool false) ∧ ∃ p : Regrown, w'' = grow (redrawn WB p.d) p.os := fun d os => Calls.regrown_of (begins_no _ ba n0 bc da n1 dc (valB y0 c0) (valB y1 c1) (sB.later (below_regrown WB d os)) (sD.later (below_regrown WB d os)) HDC.out (by omega) (by omega) HN0.out.2 HN1.out.2 HP01.out)
        have BG2 : ∀ d os, Calls Try.prog 27 #[.slice da n1 dc, .slice ba n0 bc] (grow (redrawn WB d) os) fun e w'' => e = .returned (.bool false) ∧ ∃ p : Regrown, w'' = grow (redrawn WB p.d) p.os := fun d os => Calls.regrown_of (begins_no _ da n1 dc ba n0 bc (valB y1 c1) (valB y0 c0) (sD.later (below_regrown WB d os)) (sB.later (below_regrown WB d os)) HBC.out (by omega) (by omega) HN1.out.2 HN0.out.2 HP10.out)
        have hEQ := HEQ.out
        have WK : ∀ d os, Calls Try.prog 11 #[] (grow (redrawn WB d) os) fun e w'' => e = .returned (.bool true) ∧ ∃ p : Regrown, w'' = grow (redrawn WB p.d) p.os := fun d os => Calls.regrown_of (works_any _)
        have NM : ∀ k d os, Calls Try.prog 16 #[.int .i64 k] (grow (redrawn WB d) os) fun e w'' => e = .returned (.int .i64 k) ∧ ∃ p : Regrown, w'' = grow (redrawn WB p.d) p.os := fun k d os => (num_any k _).mono fun e w' ⟨h1, h2⟩ => ⟨h1, ⟨d, os⟩, h2⟩
        have r0 := cell_regrown o0; have r1 := cell_regrown o1; have r2 := cell_regrown o2; have r3 := cell_regrown o3; have r4 := cell_regrown o4; have r5 := cell_regrown o5; have r6 := cell_regrown o6
        have t0 := cell_regrown q0; have t1 := cell_regrown q1; have t2 := cell_regrown q2; have t3 := cell_regrown q3; have t4 := cell_regrown q4; have t5 := cell_regrown q5; have t6 := cell_regrown q6
        generalize txt (valB y0 c0) = T0 at *
        generalize txt (valB y1 c1) = T1 at *
        generalize (sameP y0 y1 && sameF c0 c1) = sm at *
        go_wp2_with fail
        refine wp_region_quiet_below (by kernel_rfl) (by kernel_rfl) ?_
        repeat (go_big_quiet_step (first | with_reducible exact NM _ _ _ | with_reducible exact BG1 _ _ | with_reducible exact BG2 _ _ | with_reducible exact SA _ _ | with_reducible exact WK _ _))
        refine wpQuiet_nil ?_
        intro _ hw'
        obtain ⟨⟨dq, osq⟩, hw''⟩ := hw'
        subst hw''
        have hbq := below_regrown WB dq osq
        generalize grow (redrawn WB dq) osq = wq at *
        go_wp2_with fail
        go_ret
        exact ⟨rfl, hbwB.trans (hbq.mono hbwB.size)⟩
      · have hcd : ¬ (0 ≤ k2 ∧ k2 < (n0 : Int)) := hcut
        have sB := HSB.out.later hb49
        have sD := HSD.out.later hb49
        obtain ⟨⟨o0, o1, o2, o3, o4, o5, o6⟩, _⟩ := blk7 hx09
        obtain ⟨⟨q0, q1, q2, q3, q4, q5, q6⟩, _⟩ := blk7 hx19
        rcases Int.lt_or_le k2 0 with hk | hk
        · have hk9 : ¬ (0 : Int) ≤ k2 := by omega
          have S1 : ∀ d os, Sem.run Try.prog (convert 37 9 (.slice ba n0 bc)) (grow (redrawn W9 d) os) = .ok (.string (txt (valB y0 c0))) (grow (redrawn W9 d) os) := fun d os => str_src (sB.later (below_regrown W9 d os))
          have S2 : ∀ d os, Sem.run Try.prog (convert 37 9 (.slice da n1 dc)) (grow (redrawn W9 d) os) = .ok (.string (txt (valB y1 c1))) (grow (redrawn W9 d) os) := fun d os => str_src (sD.later (below_regrown W9 d os))
          have SA : ∀ d os, Calls Try.prog 26 #[val y0 c0 ia0 ic0 la0 lc0, val y1 c1 ia1 ic1 la1 lc1] (grow (redrawn W9 d) os) fun e w'' => e = .returned (.bool (sameP y0 y1 && sameF c0 c1)) ∧ ∃ p : Regrown, w'' = grow (redrawn W9 p.d) p.os := fun d os =>
            Calls.regrown_of (same_any y0 c0 (grow (redrawn W9 d) os) ia0 ic0 la0 lc0 y1 c1 ia1 ic1 la1 lc1 ((HV0.out.later hbw9).later (below_regrown W9 d os)) ((HV1.out.later hbw9).later (below_regrown W9 d os)))
          have BG1 : ∀ d os, Calls Try.prog 27 #[.slice ba n0 bc, .slice da n1 dc] (grow (redrawn W9 d) os) fun e w'' => e = .returned (.bool false) ∧ ∃ p : Regrown, w'' = grow (redrawn W9 p.d) p.os := fun d os => Calls.regrown_of (begins_no _ ba n0 bc da n1 dc (valB y0 c0) (valB y1 c1) (sB.later (below_regrown W9 d os)) (sD.later (below_regrown W9 d os)) HDC.out (by omega) (by omega) HN0.out.2 HN1.out.2 HP01.out)
          have BG2 : ∀ d os, Calls Try.prog 27 #[.slice da n1 dc, .slice ba n0 bc] (grow (redrawn W9 d) os) fun e w'' => e = .returned (.bool false) ∧ ∃ p : Regrown, w'' = grow (redrawn W9 p.d) p.os := fun d os => Calls.regrown_of (begins_no _ da n1 dc ba n0 bc (valB y1 c1) (valB y0 c0) (sD.later (below_regrown W9 d os)) (sB.later (below_regrown W9 d os)) HBC.out (by omega) (by omega) HN1.out.2 HN0.out.2 HP10.out)
          have hEQ := HEQ.out
          have WK : ∀ d os, Calls Try.prog 11 #[] (grow (redrawn W9 d) os) fun e w'' => e = .returned (.bool true) ∧ ∃ p : Regrown, w'' = grow (redrawn W9 p.d) p.os := fun d os => Calls.regrown_of (works_any _)
          have NM : ∀ k d os, Calls Try.prog 16 #[.int .i64 k] (grow (redrawn W9 d) os) fun e w'' => e = .returned (.int .i64 k) ∧ ∃ p : Regrown, w'' = grow (redrawn W9 p.d) p.os := fun k d os => (num_any k _).mono fun e w' ⟨h1, h2⟩ => ⟨h1, ⟨d, os⟩, h2⟩
          have r0 := cell_regrown o0; have r1 := cell_regrown o1; have r2 := cell_regrown o2; have r3 := cell_regrown o3; have r4 := cell_regrown o4; have r5 := cell_regrown o5; have r6 := cell_regrown o6
          have t0 := cell_regrown q0; have t1 := cell_regrown q1; have t2 := cell_regrown q2; have t3 := cell_regrown q3; have t4 := cell_regrown q4; have t5 := cell_regrown q5; have t6 := cell_regrown q6
          generalize txt (valB y0 c0) = T0 at *
          generalize txt (valB y1 c1) = T1 at *
          generalize (sameP y0 y1 && sameF c0 c1) = sm at *
          go_wp2_with fail
          refine wp_region_quiet_below (by kernel_rfl) (by kernel_rfl) ?_
          repeat (go_big_quiet_step (first | with_reducible exact NM _ _ _ | with_reducible exact BG1 _ _ | with_reducible exact BG2 _ _ | with_reducible exact SA _ _ | with_reducible exact WK _ _))
          refine wpQuiet_nil ?_
          intro _ hw'
          obtain ⟨⟨dq, osq⟩, hw''⟩ := hw'
          subst hw''
          have hbq := below_regrown W9 dq osq
          generalize grow (redrawn W9 dq) osq = wq at *
          go_wp2_with fail
          go_ret
          exact ⟨rfl, hbw9.trans (hbq.mono hbw9.size)⟩
        · have hk9 : ¬ k2 < (n0 : Int) := by omega
          have S1 : ∀ d os, Sem.run Try.prog (convert 37 9 (.slice ba n0 bc)) (grow (redrawn W9 d) os) = .ok (.string (txt (valB y0 c0))) (grow (redrawn W9 d) os) := fun d os => str_src (sB.later (below_regrown W9 d os))
          have S2 : ∀ d os, Sem.run Try.prog (convert 37 9 (.slice da n1 dc)) (grow (redrawn W9 d) os) = .ok (.string (txt (valB y1 c1))) (grow (redrawn W9 d) os) := fun d os => str_src (sD.later (below_regrown W9 d os))
          have SA : ∀ d os, Calls Try.prog 26 #[val y0 c0 ia0 ic0 la0 lc0, val y1 c1 ia1 ic1 la1 lc1] (grow (redrawn W9 d) os) fun e w'' => e = .returned (.bool (sameP y0 y1 && sameF c0 c1)) ∧ ∃ p : Regrown, w'' = grow (redrawn W9 p.d) p.os := fun d os =>
            Calls.regrown_of (same_any y0 c0 (grow (redrawn W9 d) os) ia0 ic0 la0 lc0 y1 c1 ia1 ic1 la1 lc1 ((HV0.out.later hbw9).later (below_regrown W9 d os)) ((HV1.out.later hbw9).later (below_regrown W9 d os)))
          have BG1 : ∀ d os, Calls Try.prog 27 #[.slice ba n0 bc, .slice da n1 dc] (grow (redrawn W9 d) os) fun e w'' => e = .returned (.bool false) ∧ ∃ p : Regrown, w'' = grow (redrawn W9 p.d) p.os := fun d os => Calls.regrown_of (begins_no _ ba n0 bc da n1 dc (valB y0 c0) (valB y1 c1) (sB.later (below_regrown W9 d os)) (sD.later (below_regrown W9 d os)) HDC.out (by omega) (by omega) HN0.out.2 HN1.out.2 HP01.out)
          have BG2 : ∀ d os, Calls Try.prog 27 #[.slice da n1 dc, .slice ba n0 bc] (grow (redrawn W9 d) os) fun e w'' => e = .returned (.bool false) ∧ ∃ p : Regrown, w'' = grow (redrawn W9 p.d) p.os := fun d os => Calls.regrown_of (begins_no _ da n1 dc ba n0 bc (valB y1 c1) (valB y0 c0) (sD.later (below_regrown W9 d os)) (sB.later (below_regrown W9 d os)) HBC.out (by omega) (by omega) HN1.out.2 HN0.out.2 HP10.out)
          have hEQ := HEQ.out
          have WK : ∀ d os, Calls Try.prog 11 #[] (grow (redrawn W9 d) os) fun e w'' => e = .returned (.bool true) ∧ ∃ p : Regrown, w'' = grow (redrawn W9 p.d) p.os := fun d os => Calls.regrown_of (works_any _)
          have NM : ∀ k d os, Calls Try.prog 16 #[.int .i64 k] (grow (redrawn W9 d) os) fun e w'' => e = .returned (.int .i64 k) ∧ ∃ p : Regrown, w'' = grow (redrawn W9 p.d) p.os := fun k d os => (num_any k _).mono fun e w' ⟨h1, h2⟩ => ⟨h1, ⟨d, os⟩, h2⟩
          have r0 := cell_regrown o0; have r1 := cell_regrown o1; have r2 := cell_regrown o2; have r3 := cell_regrown o3; have r4 := cell_regrown o4; have r5 := cell_regrown o5; have r6 := cell_regrown o6
          have t0 := cell_regrown q0; have t1 := cell_regrown q1; have t2 := cell_regrown q2; have t3 := cell_regrown q3; have t4 := cell_regrown q4; have t5 := cell_regrown q5; have t6 := cell_regrown q6
          generalize txt (valB y0 c0) = T0 at *
          generalize txt (valB y1 c1) = T1 at *
          generalize (sameP y0 y1 && sameF c0 c1) = sm at *
          go_wp2_with fail
          refine wp_region_quiet_below (by kernel_rfl) (by kernel_rfl) ?_
          repeat (go_big_quiet_step (first | with_reducible exact NM _ _ _ | with_reducible exact BG1 _ _ | with_reducible exact BG2 _ _ | with_reducible exact SA _ _ | with_reducible exact WK _ _))
          refine wpQuiet_nil ?_
          intro _ hw'
          obtain ⟨⟨dq, osq⟩, hw''⟩ := hw'
          subst hw''
          have hbq := below_regrown W9 dq osq
          generalize grow (redrawn W9 dq) osq = wq at *
          go_wp2_with fail
          go_ret
          exact ⟨rfl, hbw9.trans (hbq.mono hbw9.size)⟩
    · have hb4 := hb3.trans (hbz.mono hb3.size)
      have HSB : Hid (Src W4 ba (valB y0 c0).length bc (c8 (valB y0 c0))) := hs3.later hbz
      have hx0 := below_at hbz hy0
      have hx1 := below_at hbz hy1
      have HRD : Hid (rRead (valB y0 c0 ++ m) = .ok ((y0, nt c0), m)) := back_read HV0.out hk0 hm0 m
      have HRC : Hid (∀ k, k < (valB y0 c0).length → rRead ((valB y0 c0).take k) = .error true) := fun k hk => back_cut (by have h := back_read HV0.out hk0 hm0 []; rwa [List.append_nil] at h) hk
      have HM8 : Hid (∀ x ∈ valB y0 c0, x < 256) := valB_b8 HV0.out hm0
      obtain ⟨n0, hn0⟩ : ∃ n, n = (valB y0 c0).length := ⟨_, rfl⟩
      have HN0 : Hid (n0 = (valB y0 c0).length ∧ ∀ x ∈ valB y0 c0, x < 256) := ⟨hn0, HM8.out⟩
      have hnb0 : n0 ≤ 200000 := by have := HB0.out; omega
      rw [← hn0] at HSB HRC  hbc ⊢
      have HBC : Hid (n0 ≤ bc) := hbc
      have hnb0' : (n0 : Int) ≤ 200000 := by omega
      have hbc' : (n0 : Int) ≤ (bc : Int) := by omega
      clear hn0 hs3 hk0 hm0 WR1
      have HTL : Hid (∀ W', Below W4.heap.size W4 W' → Src W' a2 len2 cap2 (c8 m)) := fun W' h => HT.out.1.later (hb4.trans (h.mono hb4.size))
      have HM : Hid (0 + n0 ≤ maxLen ∧ (0 + n0) * 1 ≤ 140737488355328 ∧ 0 + n0 + len2 ≤ maxLen ∧ (0 + n0 + len2) * 1 ≤ 140737488355328) := ⟨by unfold maxLen; omega, by omega, by unfold maxLen; omega, by omega⟩
      go_wp2_with fail
      refine (num_any 0 _).mono ?_
      rintro e wx ⟨rfl, hwx⟩
      obtain rfl := hwx.symm
      go_wp2_with (first | (at_builtin; refine wpList_append_src rfl (.tmp 57) (.tmp 58) 37 rfl W4.heap.size 5 i0 (.int .u8 0) 1 Try.underlying37 hi hz0 hz1 hz2 rfl _ _ _ rfl (World.ownsRow_made _ _ 0 (Nat.le_refl _) (Nat.zero_le _) rfl) _ _ _ (c8 (valB y0 c0)) rfl (HSB.out.later (alloc_below W4 _)) (c8_one _) HM.out.1 HM.out.2.1 (alloc_below W4 _).size ?_; intro v5 W5 hown5 hb5; have hb05 : Below W4.heap.size W4 W5 := (alloc_below W4 _).trans hb5) | (at_builtin; refine wpList_append_src rfl (.tmp 59) (.tmp 60) 37 rfl W4.heap.size 5 i0 (.int .u8 0) 1 Try.underlying37 hi hz0 hz1 hz2 rfl _ _ _ rfl hown5 _ _ _ (c8 m) rfl (HTL.out _ hb05) (c8_one m) HM.out.2.2.1 HM.out.2.2.2 hb05.size ?_; intro v6 W6 hown6 hb6; have hb06 : Below W4.heap.size W4 W6 := hb05.trans hb6; have HO6 : Hid (W6.ownsRow W4.heap.size 5 1 v6 (n0 + len2) (c8 (valB y0 c0 ++ m))) := (by show World.ownsRow _ _ _ _ _ _ _; have h0 := hown6; rw [Nat.zero_add, List.nil_append, ← c8_append] at h0; exact h0); clear hown6; obtain ⟨ad6, cc6, rfl⟩ := own_sl HO6.out))
      have R2 := read_ok W6 ad6 (n0 + len2) cc6 (valB y0 c0 ++ m) (by rw [List.length_append, ← HN0.out.1, HT.out.2]) (src_own HO6.out).2 (own_cap HO6.out) (by omega) (b8_append HN0.out.2 m8) HRD.out n0 (by rw [HT.out.2])
      refine R2.mono ?_
      rintro e W7 ⟨ja, jc, ka, kc, rfl, hin7, hb7⟩
      have hb47 := hb06.trans (hb7.mono hb06.size)
      have hbw7 := hb4.trans (hb47.mono hb4.size)
      have hbv := alloc_below W7 (.cells #[.int .i64 y0.kind, .int .i64 y0.key, .int .i64 y0.elem, .int .i64 y0.num, .string y0.text, .slice ja y0.ids.length jc, .slice ka (flen (nt c0)) kc] 26)
      have hbw8 := hbw7.trans (hbv.mono hbw7.size)
      have hb48 := hb47.trans (hbv.mono hb47.size)
      have hv8 := heap_new W7 (.cells #[.int .i64 y0.kind, .int .i64 y0.key, .int .i64 y0.elem, .int .i64 y0.num, .string y0.text, .slice ja y0.ids.length jc, .slice ka (flen (nt c0)) kc] 26)
      have hin8 := hin7.later hbv
      have hx08 := below_at hb48 hx0
      have hx18 := below_at hb48 hx1
      have hlt7 := lt_of_heap (below_at hb47 hx0)
      have SM := same_any y0 (nt c0) (W7.alloc (.cells #[.int .i64 y0.kind, .int .i64 y0.key, .int .i64 y0.elem, .int .i64 y0.num, .string y0.text, .slice ja y0.ids.length jc, .slice ka (flen (nt c0)) kc] 26)) ja jc ka kc y0 c0 ia0 ic0 la0 lc0 hin8 (HV0.out.later hbw8)
      rw [sameP_refl, sameF_nt'] at SM
      obtain ⟨⟨o0, o1, o2, o3, o4, o5, o6⟩, _⟩ := blk7 (below_at hb47 hx0)
      clear HO6 hown5 hb5 hb05 hb6 R2 HM HTL hin7 HRD
      go_wp2_with fail
      generalize W7.alloc (.cells #[.int .i64 y0.kind, .int .i64 y0.key, .int .i64 y0.elem, .int .i64 y0.num, .string y0.text, .slice ja y0.ids.length jc, .slice ka (flen (nt c0)) kc] 26) = W8 at *
      refine SM.mono ?_
      rintro e W9 ⟨rfl, hbx9⟩
      have hbw9 := hbw8.trans (hbx9.mono hbw8.size)
      have hb49 := hb48.trans (hbx9.mono hb48.size)
      have hx09 := below_at hbx9 hx08
      have hx19 := below_at hbx9 hx18
      clear o0 o1 o2 o3 o4 o5 o6 SM hx08 hx18 hv8 hin8
      go_wp2_with fail
      refine (num_any 0 _).mono ?_
      rintro e wx ⟨rfl, hwx⟩
      obtain rfl := hwx.symm
      by_cases hcut : 0 ≤ k2 ∧ k2 < (n0 : Int)
      · obtain ⟨kk, rfl⟩ := Int.eq_ofNat_of_zero_le hcut.1
        have hkk : kk < n0 := by omega
        have hkk' : (kk : Int) < (n0 : Int) := by omega
        have hkc : (kk : Int) ≤ (bc : Int) := by omega
        have R3 : Calls Try.prog 21 #[.slice ba kk bc] W9 fun e w' => e = .returned (.tuple #[.agg #[.int .i64 0, .int .i64 0, .int .i64 0, .int .i64 0, .string { data := #[] }, .slice none 0 0, .slice none 0 0], .int .i64 0, .int .i64 6]) ∧ Below W9.heap.size W9 w' := read_no W9 ba kk bc ((valB y0 c0).take kk) (by rw [List.length_take, ← HN0.out.1]; omega) (src_take (HSB.out.later hb49) (by omega)) (by omega) (by omega) (fun x hx => HN0.out.2 x (List.mem_of_mem_take hx)) (HRC.out kk hkk)
        clear HRC hcut
        go_wp2_with fail
        refine R3.mono ?_
        rintro e WA ⟨rfl, hbA⟩
        have hbA2 := hbA.trans ((alloc_below WA (.cells #[.int .i64 0, .int .i64 0, .int .i64 0, .int .i64 0, .string { data := #[] }, .slice none 0 0, .slice none 0 0] 26)).mono hbA.size)
        have hbwB := hbw9.trans (hbA2.mono hbw9.size)
        have hb4B := hb49.trans (hbA2.mono hb49.size)
        have hx0B := below_at hbA2 hx09
        have hx1B := below_at hbA2 hx19
        clear R3 hx09 hx19
        go_wp2_with fail
        refine (num_any 6 _).mono ?_
        rintro e wx ⟨rfl, hwx⟩
        obtain rfl := hwx.symm
        go_wp2_with fail
        generalize WA.alloc (.cells #[.int .i64 0, .int .i64 0, .int .i64 0, .int .i64 0, .string { data := #[] }, .slice none 0 0, .slice none 0 0] 26) = WB at *
        have WK : ∀ d os, Calls Try.prog 11 #[] (grow (redrawn WB d) os) fun e w'' => e = .returned (.bool true) ∧ ∃ p : Regrown, w'' = grow (redrawn WB p.d) p.os := fun d os => Calls.regrown_of (works_any _)
        have NM : ∀ k d os, Calls Try.prog 16 #[.int .i64 k] (grow (redrawn WB d) os) fun e w'' => e = .returned (.int .i64 k) ∧ ∃ p : Regrown, w'' = grow (redrawn WB p.d) p.os := fun k d os => (num_any k _).mono fun e w' ⟨h1, h2⟩ => ⟨h1, ⟨d, os⟩, h2⟩
        go_wp2_with fail
        refine wp_region_quiet_below (by kernel_rfl) (by kernel_rfl) ?_
        repeat (go_big_quiet_step (first | with_reducible exact NM _ _ _ | with_reducible exact WK _ _))
        refine wpQuiet_nil ?_
        intro _ hw'
        obtain ⟨⟨dq, osq⟩, hw''⟩ := hw'
        subst hw''
        have hbq := below_regrown WB dq osq
        generalize grow (redrawn WB dq) osq = wq at *
        go_wp2_with fail
        go_ret
        exact ⟨rfl, hbwB.trans (hbq.mono hbwB.size)⟩
      · rcases Int.lt_or_le k2 0 with hk | hk
        · have hk9 : ¬ (0 : Int) ≤ k2 := by omega
          have WK : ∀ d os, Calls Try.prog 11 #[] (grow (redrawn W9 d) os) fun e w'' => e = .returned (.bool true) ∧ ∃ p : Regrown, w'' = grow (redrawn W9 p.d) p.os := fun d os => Calls.regrown_of (works_any _)
          have NM : ∀ k d os, Calls Try.prog 16 #[.int .i64 k] (grow (redrawn W9 d) os) fun e w'' => e = .returned (.int .i64 k) ∧ ∃ p : Regrown, w'' = grow (redrawn W9 p.d) p.os := fun k d os => (num_any k _).mono fun e w' ⟨h1, h2⟩ => ⟨h1, ⟨d, os⟩, h2⟩
          go_wp2_with fail
          refine wp_region_quiet_below (by kernel_rfl) (by kernel_rfl) ?_
          repeat (go_big_quiet_step (first | with_reducible exact NM _ _ _ | with_reducible exact WK _ _))
          refine wpQuiet_nil ?_
          intro _ hw'
          obtain ⟨⟨dq, osq⟩, hw''⟩ := hw'
          subst hw''
          have hbq := below_regrown W9 dq osq
          generalize grow (redrawn W9 dq) osq = wq at *
          go_wp2_with fail
          go_ret
          exact ⟨rfl, hbw9.trans (hbq.mono hbw9.size)⟩
        · have hk9 : ¬ k2 < (n0 : Int) := by omega
          have WK : ∀ d os, Calls Try.prog 11 #[] (grow (redrawn W9 d) os) fun e w'' => e = .returned (.bool true) ∧ ∃ p : Regrown, w'' = grow (redrawn W9 p.d) p.os := fun d os => Calls.regrown_of (works_any _)
          have NM : ∀ k d os, Calls Try.prog 16 #[.int .i64 k] (grow (redrawn W9 d) os) fun e w'' => e = .returned (.int .i64 k) ∧ ∃ p : Regrown, w'' = grow (redrawn W9 p.d) p.os := fun k d os => (num_any k _).mono fun e w' ⟨h1, h2⟩ => ⟨h1, ⟨d, os⟩, h2⟩
          go_wp2_with fail
          refine wp_region_quiet_below (by kernel_rfl) (by kernel_rfl) ?_
          repeat (go_big_quiet_step (first | with_reducible exact NM _ _ _ | with_reducible exact WK _ _))
          refine wpQuiet_nil ?_
          intro _ hw'
          obtain ⟨⟨dq, osq⟩, hw''⟩ := hw'
          subst hw''
          have hbq := below_regrown W9 dq osq
          generalize grow (redrawn W9 dq) osq = wq at *
          go_wp2_with fail
          go_ret
          exact ⟨rfl, hbw9.trans (hbq.mono hbw9.size)⟩
  · have hb3 := hb2.trans (hbx.mono hb2.size)
    have hy0 := below_at hbx hx0
    have hy1 := below_at hbx hx1
    clear WR0 p0 p1 p2 p3 p4 p5 p6 hx0 hx1
    obtain ⟨⟨p0, p1, p2, p3, p4, p5, p6⟩, _⟩ := blk7 hy1
    have WR1 := write_some y1 c1 W3 ia1 ic1 la1 lc1 (HV1.out.later hb3) (by have := HB1.out; omega)
    go_wp2_with fail
    refine WR1.mono ?_
    rintro e W4 ⟨hbz, ⟨hk1, hm1, da, dc, rfl, hs4, hdc⟩ | ⟨hno1, rfl⟩⟩
    · have hb4 := hb3.trans (hbz.mono hb3.size)
      clear WR1
      go_wp2_with fail
      refine (num_any 2 _).mono ?_
      rintro e wx ⟨rfl, hwx⟩
      obtain rfl := hwx.symm
      go_wp2_with fail
      refine (works_any _).mono ?_
      rintro e W9 ⟨rfl, hb9⟩
      go_wp2_with fail
      go_ret
      exact ⟨rfl, hb4.trans (hb9.mono hb4.size)⟩
    · have hb4 := hb3.trans (hbz.mono hb3.size)
      clear WR1
      go_wp2_with fail
      refine (num_any 2 _).mono ?_
      rintro e wx ⟨rfl, hwx⟩
      obtain rfl := hwx.symm
      go_wp2_with fail
      refine (works_any _).mono ?_
      rintro e W9 ⟨rfl, hb9⟩
      go_wp2_with fail
      go_ret
      exact ⟨rfl, hb4.trans (hb9.mono hb4.size)⟩

set_option maxRecDepth 100000 in
theorem lifted (os : Os) (started : os.Started) (H : Type) (enc : TypeId × Value → H) :
    ReturnsInHanded {} Try.checked os 8 .any (Rows.thriftBackSpec.pre6 enc Try.prog Try.f8 Rows.thriftBackRow.domain false) (Rows.thriftBackSpec.post enc Try.prog Try.f8 false true false false) := by
  refine returnsInHanded_of_change_sized (C := Try.checked) own started (by kernel_rfl) Try.func8
    (ChangeSpec.witness6 (enc := enc) (C := Try.checked) false ⟨#[], #[.agg #[.int .i64 0, .int .i64 0, .int .i64 0, .int .i64 0, .string { data := #[] }, .slice none 0 0, .slice none 0 0], .agg #[.int .i64 0, .int .i64 0, .int .i64 0, .int .i64 0, .string { data := #[] }, .slice none 0 0, .slice none 0 0], .agg #[.slice none 0 0, .int .i64 0]], []⟩ 8 (by kernel_rfl) (by kernel_rfl) (by kernel_rfl) (by kernel_rfl)) ?_
  intro W base args ds gs before hval0 hW hcnd hsz0 _
  have hsz : (DataW.weightsEach Try.prog (Try.f8.params.toList ++ Rows.thriftBackSpec.plain.varTypes Try.prog) (ds ++ gs)).all (· ≤ reachBytes) = true := hsz0
  clear hsz0
  have hval : ∀ (j : Nat) t v, Try.f8.params[j]? = some t → args[j]? = some v → Value.okWide Try.prog W .any base t v := hval0
  have hW' := hW
  obtain ⟨p, q, hA0, hV, rfl, hfz, hnd⟩ := hW
  have hA : DataW.TrodAll enc Try.prog W 0 (fun _ => true) true Try.f8.params.toList args.toList ds p := hA0
  rw [Try.params8] at hA hval hsz
  obtain ⟨v0, vs0, d0, ds0, p0, q0, hargs, rfl, rfl, h0, r0⟩ := trodAll_cons hA
  obtain ⟨v1, vs1, d1, ds1, p1, q1, rfl, rfl, rfl, h1, r1⟩ := trodAll_cons r0
  obtain ⟨v2, vs2, d2, ds2, p2, q2, rfl, rfl, rfl, h2, r2⟩ := trodAll_cons r1
  obtain ⟨rfl, rfl, rfl⟩ := trodAll_nil r2
  obtain rfl : args = #[v0, v1, v2] := by cases args; simp_all
  obtain ⟨rfl, rfl⟩ := trodVars_none hV
  have k0 := h0
  have lt0 : ∀ x ∈ p0, x.block < W.heap.size := by obtain ⟨m, hm⟩ := k0; exact DataW.trod_lt m _ _ _ hm
  obtain ⟨y0, c0, ia0, ic0, la0, lc0, rfl, w0⟩ := arg_th hsz 0 rfl rfl (hval 0 26 v0 rfl rfl) h0
  have k1 := h1
  have lt1 : ∀ x ∈ p1, x.block < W.heap.size := by obtain ⟨m, hm⟩ := k1; exact DataW.trod_lt m _ _ _ hm
  obtain ⟨y1, c1, ia1, ic1, la1, lc1, rfl, w1⟩ := arg_th hsz 1 rfl rfl (hval 1 26 v1 rfl rfl) h1
  have k2 := h2
  have lt2 : ∀ x ∈ p2, x.block < W.heap.size := by obtain ⟨m, hm⟩ := k2; exact DataW.trod_lt m _ _ _ hm
  obtain ⟨u0, u1, g0, g1, m, rfl, rfl, rfl, hy0, hy1⟩ := Joins.open_agg2 Try.underlying51 (by kernel_rfl) (by kernel_rfl) (hval 2 51 v2 rfl rfl) h2
  obtain ⟨a2, len2, cap2, e0⟩ := Joins.slice_form Try.underlying37 hy0
  obtain ⟨n2, e1, _, j2⟩ := DataW.trod_int Try.underlying3 hy1
  simp only [List.cons.injEq, and_true] at e0 e1
  subst e0 e1
  obtain ⟨z2, w2⟩ := row_open (a := a2) (len := len2) (cap := cap2) ⟨_, hy0⟩
  clear hA0 hval0
  refine (walk y0 c0 ia0 ic0 la0 lc0 y1 c1 ia1 ic1 la1 lc1 a2 len2 cap2 z2 n2 W w0 w1 w2 j2).mono fun e W' ⟨he, bel⟩ => ?_
  subst he
  exact ⟨_, rfl, _, _, _, [], _, [], hW', trodAll_mk1 (shut_bool Try.underlying4 _), (trodAll_cons_mk (Below.trod laidOut (by kernel_rfl) (of_decide_eq_true (by kernel_rfl)) k0 bel lt0) (trodAll_cons_mk (Below.trod laidOut (by kernel_rfl) (of_decide_eq_true (by kernel_rfl)) k1 bel lt1) (trodAll_cons_mk (Below.trod laidOut (by kernel_rfl) (of_decide_eq_true (by kernel_rfl)) k2 bel lt2) trodAll_mk0))), rfl, bel.frame _, fun h => by cases h⟩

theorem over : Rows.thriftBackRow.holds Try.pinned (OpenSpec.ofChange Rows.thriftBackSpec) :=
  OpenClaim.holds_of_wide 8 Try.f8 rfl rfl rfl rfl rfl rfl rfl ⟨rfl, rfl, rfl, rfl, rfl⟩ rfl rfl rfl rfl rfl (by kernel_rfl) Try.func8 (by kernel_rfl)
    (of_decide_eq_true (by kernel_rfl)) (by unfold Func.isWrapper; first | (rw [if_pos (by decide +kernel)]; kernel_rfl) | (rw [if_neg (by decide +kernel)]; exact ⟨rfl, rfl⟩))
    (fun os started H enc _ => lifted os started H enc)

theorem proved : Rows.ThriftBackSaid := over
#print axioms proved
end Go.Proofs.Ytikoddlidhefpaa.thriftBack
namespace Go.Proofs.Ytikoddlidhefpaa
theorem thriftBack_holds : Rows.ThriftBackSaid := thriftBack.proved
end Go.Proofs.Ytikoddlidhefpaa
