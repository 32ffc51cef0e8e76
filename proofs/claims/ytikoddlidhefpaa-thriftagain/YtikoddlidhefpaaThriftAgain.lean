/-
For any bytes and any bytes behind (of at most 3000 each; else the law asks one structure alone): what thrift.Read tells is written by thrift.Write in the bytes that were taken, and is told whatever stands behind; bytes that no writer lays stay so. No condition.
-/
import Derived.Test.YtikoddlidhefpaaRows
import Derived.Test.YtikoddlidhefpaaFrame
import Derived.Test.YtikoddlidhefpaaLawA
import Derived.WalkKit
import Derived.ProofKit
import Derived.OpenShut
import Derived.ShutString
import Derived.ChangeOld
import Derived.Below
import Derived.Lib.QuietBelow
import Derived.BigQuiet
namespace Go.Proofs.Ytikoddlidhefpaa.thriftAgain
open Go.ChangeShapes Go.WideShapes Go.ChangeAt Go.RowKit Go.Deep Go.Sort
set_option linter.unusedVariables false
set_option linter.unusedSimpArgs false

set_option maxRecDepth 100000 in
set_option maxHeartbeats 20000000 in
theorem walk (a0 : Option Addr) (len0 cap0 : Nat) (z0 : List Int) (a1 : Option Addr) (len1 cap1 : Nat) (z1 : List Int) (w : World) (w0 : IsRow .u8 w a0 len0 cap0 z0) (w1 : IsRow .u8 w a1 len1 cap1 z1) :
    Calls Try.prog 9 #[.slice a0 len0 cap0, .slice a1 len1 cap1] w fun e w' => e = .returned (.bool true) ∧ Below w.heap.size w w' := by
  by_cases c : 3000 < len0
  · have c' : (3000 : Int) < (len0 : Int) := by omega
    go_enter Try.func9, Try.ntmps9
    go_wp2_with fail
    refine (works_any w).mono ?_
    rintro e W1 ⟨rfl, hb1⟩
    go_wp2_with fail
    go_ret
    exact ⟨rfl, hb1⟩
  have c' : (len0 : Int) ≤ 3000 := by omega
  by_cases d : 3000 < len1
  · have d' : (3000 : Int) < (len1 : Int) := by omega
    go_enter Try.func9, Try.ntmps9
    go_wp2_with fail
    refine (works_any w).mono ?_
    rintro e W1 ⟨rfl, hb1⟩
    go_wp2_with fail
    go_ret
    exact ⟨rfl, hb1⟩
  have d' : (len1 : Int) ≤ 3000 := by omega
  obtain ⟨i0, hi, hz0, hz1, hz2⟩ := infoU8'
  have hcap : len0 ≤ cap0 := by have := w0.len_le; omega
  obtain ⟨l, hl, h8, hs⟩ := row_nat w0
  obtain ⟨m, hm, m8, ms⟩ := row_nat w1
  have lm8 : ∀ x ∈ l ++ m, x < 256 := fun x hx => by
    rcases List.mem_append.1 hx with hx | hx
    · exact h8 x hx
    · exact m8 x hx
  have HLM : Hid ((l ++ m).length = len0 + len1) := by show _ = _; rw [List.length_append]; omega
  have HS : Hid (Src w a0 len0 cap0 (c8 l)) := hs
  have HT : Hid (Src w a1 len1 cap1 (c8 m)) := ms
  have HM : Hid (0 + len0 ≤ maxLen ∧ (0 + len0) * 1 ≤ 140737488355328 ∧ 0 + len0 + len1 ≤ maxLen ∧ (0 + len0 + len1) * 1 ≤ 140737488355328) := ⟨by unfold maxLen; omega, by omega, by unfold maxLen; omega, by omega⟩
  have hcap' : (len0 : Int) ≤ (cap0 : Int) := by omega
  clear w0 w1
  cases hr : rRead l with
  | error s =>
    cases s
    · have R1 : Calls Try.prog 21 #[.slice a0 len0 cap0] w fun e w' => e = .returned (.tuple #[.agg #[.int .i64 0, .int .i64 0, .int .i64 0, .int .i64 0, .string { data := #[] }, .slice none 0 0, .slice none 0 0], .int .i64 0, .int .i64 8]) ∧ Below w.heap.size w w' := read_no w a0 len0 cap0 l hl hs hcap (by omega) h8 hr
      have hr2 := (good_read l).2 hr m
      clear hs ms
      go_enter Try.func9, Try.ntmps9
      go_wp2_with fail
      refine R1.mono ?_
      rintro e W1 ⟨rfl, hb1⟩
      have HSL : Hid (∀ W', Below (W1.heap.size + 1) (W1.alloc (.cells #[.int .i64 0, .int .i64 0, .int .i64 0, .int .i64 0, .string { data := #[] }, .slice none 0 0, .slice none 0 0] 26)) W' → Src W' a0 len0 cap0 (c8 l)) := fun W' h => HS.out.later (hb1.trans ((box_below h).mono hb1.size))
      have HTL : Hid (∀ W', Below (W1.heap.size + 1) (W1.alloc (.cells #[.int .i64 0, .int .i64 0, .int .i64 0, .int .i64 0, .string { data := #[] }, .slice none 0 0, .slice none 0 0] 26)) W' → Src W' a1 len1 cap1 (c8 m)) := fun W' h => HT.out.later (hb1.trans ((box_below h).mono hb1.size))
      have HZ2 : Hid (Below (W1.heap.size + 1) (W1.alloc (.cells #[.int .i64 0, .int .i64 0, .int .i64 0, .int .i64 0, .string { data := #[] }, .slice none 0 0, .slice none 0 0] 26)) ((W1.alloc (.cells #[.int .i64 0, .int .i64 0, .int .i64 0, .int .i64 0, .string { data := #[] }, .slice none 0 0, .slice none 0 0] 26)).alloc (.cells #[] 5))) := alloc2_below _ _ _
      have HZ3 : Hid (W1.heap.size + 1 ≤ ((W1.alloc (.cells #[.int .i64 0, .int .i64 0, .int .i64 0, .int .i64 0, .string { data := #[] }, .slice none 0 0, .slice none 0 0] 26)).alloc (.cells #[] 5)).heap.size) := by show _ ≤ _; simp
      have HMD : Hid (((W1.alloc (.cells #[.int .i64 0, .int .i64 0, .int .i64 0, .int .i64 0, .string { data := #[] }, .slice none 0 0, .slice none 0 0] 26)).alloc (.cells #[] 5)).ownsRow (W1.heap.size + 1) 5 1 (.slice (some ⟨W1.heap.size + 1, 0, none⟩) 0 0) 0 []) := made2 _ _
      go_wp2_with (first | (at_builtin; refine wpList_append_src rfl (.tmp 29) (.tmp 30) 37 rfl (W1.heap.size + 1) 5 i0 (.int .u8 0) 1 Try.underlying37 hi hz0 hz1 hz2 rfl _ _ _ rfl HMD.out _ _ _ (c8 l) rfl (HSL.out _ HZ2.out) (c8_one l) HM.out.1 HM.out.2.1 HZ3.out ?_; intro v2 W2 hown2 hb2; have hb02 : Below (W1.heap.size + 1) (W1.alloc (.cells #[.int .i64 0, .int .i64 0, .int .i64 0, .int .i64 0, .string { data := #[] }, .slice none 0 0, .slice none 0 0] 26)) W2 := HZ2.out.trans hb2; have HZ4 : Hid (W1.heap.size + 1 ≤ W2.heap.size) := Nat.le_trans HZ3.out hb2.size) | (at_builtin; refine wpList_append_src rfl (.tmp 31) (.tmp 32) 37 rfl (W1.heap.size + 1) 5 i0 (.int .u8 0) 1 Try.underlying37 hi hz0 hz1 hz2 rfl _ _ _ rfl hown2 _ _ _ (c8 m) rfl (HTL.out _ hb02) (c8_one m) HM.out.2.2.1 HM.out.2.2.2 HZ4.out ?_; intro v3 W3 hown3 hb3; have hb03 : Below (W1.heap.size + 1) (W1.alloc (.cells #[.int .i64 0, .int .i64 0, .int .i64 0, .int .i64 0, .string { data := #[] }, .slice none 0 0, .slice none 0 0] 26)) W3 := hb02.trans hb3; have HO3 : Hid (W3.ownsRow (W1.heap.size + 1) 5 1 v3 (len0 + len1) (c8 (l ++ m))) := (by show World.ownsRow _ _ _ _ _ _ _; have h0 := hown3; rw [Nat.zero_add, List.nil_append, ← c8_append] at h0; exact h0); clear hown3; obtain ⟨ad3, cc3, rfl⟩ := own_sl HO3.out))
      have R2 : Calls Try.prog 21 #[.slice ad3 (len0 + len1) cc3] W3 fun e w' => e = .returned (.tuple #[.agg #[.int .i64 0, .int .i64 0, .int .i64 0, .int .i64 0, .string { data := #[] }, .slice none 0 0, .slice none 0 0], .int .i64 0, .int .i64 8]) ∧ Below W3.heap.size W3 w' := read_no W3 ad3 (len0 + len1) cc3 (l ++ m) HLM.out (src_own HO3.out).2 (own_cap HO3.out) (by omega) lm8 hr2
      refine R2.mono ?_
      rintro e W4 ⟨rfl, hb4⟩
      have hb5 := hb03.trans (hb4.mono (Nat.le_trans HZ4.out hb3.size))
      have hb6 := hb1.trans ((box_below hb5).mono hb1.size)
      clear HO3 hown2 hb2 R1 R2 HMD HZ2 HZ3 HSL HTL
      go_wp2_with fail
      refine (num_any 8 _).mono ?_
      rintro e wx ⟨rfl, hwx⟩
      obtain rfl := hwx.symm
      go_wp2_with fail
      refine (num_any 8 _).mono ?_
      rintro e wx ⟨rfl, hwx⟩
      obtain rfl := hwx.symm
      go_wp2_with fail
      refine (works_any _).mono ?_
      rintro e W9 ⟨rfl, hb9⟩
      go_wp2_with fail
      go_ret
      exact ⟨rfl, (hb6.alloc hb6.size _).trans (hb9.mono (by have := hb6.size; simp; omega))⟩
    · have R1 : Calls Try.prog 21 #[.slice a0 len0 cap0] w fun e w' => e = .returned (.tuple #[.agg #[.int .i64 0, .int .i64 0, .int .i64 0, .int .i64 0, .string { data := #[] }, .slice none 0 0, .slice none 0 0], .int .i64 0, .int .i64 6]) ∧ Below w.heap.size w w' := read_no w a0 len0 cap0 l hl hs hcap (by omega) h8 hr
      clear hs ms
      go_enter Try.func9, Try.ntmps9
      go_wp2_with fail
      refine R1.mono ?_
      rintro e W1 ⟨rfl, hb1⟩
      have HSL : Hid (∀ W', Below (W1.heap.size + 1) (W1.alloc (.cells #[.int .i64 0, .int .i64 0, .int .i64 0, .int .i64 0, .string { data := #[] }, .slice none 0 0, .slice none 0 0] 26)) W' → Src W' a0 len0 cap0 (c8 l)) := fun W' h => HS.out.later (hb1.trans ((box_below h).mono hb1.size))
      have HTL : Hid (∀ W', Below (W1.heap.size + 1) (W1.alloc (.cells #[.int .i64 0, .int .i64 0, .int .i64 0, .int .i64 0, .string { data := #[] }, .slice none 0 0, .slice none 0 0] 26)) W' → Src W' a1 len1 cap1 (c8 m)) := fun W' h => HT.out.later (hb1.trans ((box_below h).mono hb1.size))
      have HZ2 : Hid (Below (W1.heap.size + 1) (W1.alloc (.cells #[.int .i64 0, .int .i64 0, .int .i64 0, .int .i64 0, .string { data := #[] }, .slice none 0 0, .slice none 0 0] 26)) ((W1.alloc (.cells #[.int .i64 0, .int .i64 0, .int .i64 0, .int .i64 0, .string { data := #[] }, .slice none 0 0, .slice none 0 0] 26)).alloc (.cells #[] 5))) := alloc2_below _ _ _
      have HZ3 : Hid (W1.heap.size + 1 ≤ ((W1.alloc (.cells #[.int .i64 0, .int .i64 0, .int .i64 0, .int .i64 0, .string { data := #[] }, .slice none 0 0, .slice none 0 0] 26)).alloc (.cells #[] 5)).heap.size) := by show _ ≤ _; simp
      have HMD : Hid (((W1.alloc (.cells #[.int .i64 0, .int .i64 0, .int .i64 0, .int .i64 0, .string { data := #[] }, .slice none 0 0, .slice none 0 0] 26)).alloc (.cells #[] 5)).ownsRow (W1.heap.size + 1) 5 1 (.slice (some ⟨W1.heap.size + 1, 0, none⟩) 0 0) 0 []) := made2 _ _
      go_wp2_with (first | (at_builtin; refine wpList_append_src rfl (.tmp 29) (.tmp 30) 37 rfl (W1.heap.size + 1) 5 i0 (.int .u8 0) 1 Try.underlying37 hi hz0 hz1 hz2 rfl _ _ _ rfl HMD.out _ _ _ (c8 l) rfl (HSL.out _ HZ2.out) (c8_one l) HM.out.1 HM.out.2.1 HZ3.out ?_; intro v2 W2 hown2 hb2; have hb02 : Below (W1.heap.size + 1) (W1.alloc (.cells #[.int .i64 0, .int .i64 0, .int .i64 0, .int .i64 0, .string { data := #[] }, .slice none 0 0, .slice none 0 0] 26)) W2 := HZ2.out.trans hb2; have HZ4 : Hid (W1.heap.size + 1 ≤ W2.heap.size) := Nat.le_trans HZ3.out hb2.size) | (at_builtin; refine wpList_append_src rfl (.tmp 31) (.tmp 32) 37 rfl (W1.heap.size + 1) 5 i0 (.int .u8 0) 1 Try.underlying37 hi hz0 hz1 hz2 rfl _ _ _ rfl hown2 _ _ _ (c8 m) rfl (HTL.out _ hb02) (c8_one m) HM.out.2.2.1 HM.out.2.2.2 HZ4.out ?_; intro v3 W3 hown3 hb3; have hb03 : Below (W1.heap.size + 1) (W1.alloc (.cells #[.int .i64 0, .int .i64 0, .int .i64 0, .int .i64 0, .string { data := #[] }, .slice none 0 0, .slice none 0 0] 26)) W3 := hb02.trans hb3; have HO3 : Hid (W3.ownsRow (W1.heap.size + 1) 5 1 v3 (len0 + len1) (c8 (l ++ m))) := (by show World.ownsRow _ _ _ _ _ _ _; have h0 := hown3; rw [Nat.zero_add, List.nil_append, ← c8_append] at h0; exact h0); clear hown3; obtain ⟨ad3, cc3, rfl⟩ := own_sl HO3.out))
      have R2 := read_some W3 ad3 (len0 + len1) cc3 (l ++ m) HLM.out (src_own HO3.out).2 (own_cap HO3.out) (by omega) lm8
      refine R2.mono ?_
      rintro e W4 ⟨k, y, z, n, x, ja, jn, jc, ka, kn, kc, r, cc, rfl, hb4⟩
      have hb5 := hb03.trans (hb4.mono (Nat.le_trans HZ4.out hb3.size))
      have hb6 := hb1.trans ((box_below hb5).mono hb1.size)
      clear HO3 hown2 hb2 R1 R2 HMD HZ2 HZ3 HSL HTL
      go_wp2_with fail
      refine (num_any 6 _).mono ?_
      rintro e wx ⟨rfl, hwx⟩
      obtain rfl := hwx.symm
      go_wp2_with fail
      refine (num_any 6 _).mono ?_
      rintro e wx ⟨rfl, hwx⟩
      obtain rfl := hwx.symm
      go_wp2_with fail
      refine (works_any _).mono ?_
      rintro e W9 ⟨rfl, hb9⟩
      go_wp2_with fail
      go_ret
      exact ⟨rfl, (hb6.alloc hb6.size _).trans (hb9.mono (by have := hb6.size; simp; omega))⟩
  | ok v =>
    obtain ⟨⟨p, c⟩, rest⟩ := v
    obtain ⟨hk, hmay, hbs, hall, h1⟩ := read_parts h8 hr
    obtain ⟨n, hn⟩ : ∃ n, n = (valB p c).length := ⟨_, rfl⟩
    have hnl : n + rest.length = len0 := by rw [hn, ← hl, hbs, List.length_append]
    have hr2 : rRead (l ++ m) = .ok ((p, c), rest ++ m) := by rw [hbs, List.append_assoc]; exact hall _
    have hnl2 : n + (rest ++ m).length = len0 + len1 := by rw [List.length_append]; omega
    have HTK : Hid (l.take n = valB p c) := by show _ = _; rw [hbs, hn]; exact List.take_left
    have R1 := read_ok w a0 len0 cap0 l hl hs hcap (by omega) h8 hr n hnl
    have hn1 : (1 : Int) ≤ (n : Int) := by omega
    have hn2 : (n : Int) ≤ (len0 : Int) := by omega
    have HN : Hid (n = (valB p c).length ∧ n ≤ 3000) := ⟨hn, by omega⟩
    have HK : Hid (p.kind = 12 ∧ mayV p c 32 = true) := ⟨hk, hmay⟩
    have HR2 : Hid (rRead (l ++ m) = .ok ((p, c), rest ++ m) ∧ n + (rest ++ m).length = len0 + len1) := ⟨hr2, hnl2⟩
    clear hn hnl hk hmay hr2 hnl2 hbs hall hr h1
    clear hs ms
    go_enter Try.func9, Try.ntmps9
    go_wp2_with fail
    refine R1.mono ?_
    rintro e W1 ⟨ja, jc, ka, kc, rfl, hin, hb1⟩
    have HSL : Hid (∀ W', Below (W1.heap.size + 1) (W1.alloc (.cells #[.int .i64 p.kind, .int .i64 p.key, .int .i64 p.elem, .int .i64 p.num, .string p.text, .slice ja p.ids.length jc, .slice ka (flen c) kc] 26)) W' → Src W' a0 len0 cap0 (c8 l)) := fun W' h => HS.out.later (hb1.trans ((box_below h).mono hb1.size))
    have HTL : Hid (∀ W', Below (W1.heap.size + 1) (W1.alloc (.cells #[.int .i64 p.kind, .int .i64 p.key, .int .i64 p.elem, .int .i64 p.num, .string p.text, .slice ja p.ids.length jc, .slice ka (flen c) kc] 26)) W' → Src W' a1 len1 cap1 (c8 m)) := fun W' h => HT.out.later (hb1.trans ((box_below h).mono hb1.size))
    have HZ2 : Hid (Below (W1.heap.size + 1) (W1.alloc (.cells #[.int .i64 p.kind, .int .i64 p.key, .int .i64 p.elem, .int .i64 p.num, .string p.text, .slice ja p.ids.length jc, .slice ka (flen c) kc] 26)) ((W1.alloc (.cells #[.int .i64 p.kind, .int .i64 p.key, .int .i64 p.elem, .int .i64 p.num, .string p.text, .slice ja p.ids.length jc, .slice ka (flen c) kc] 26)).alloc (.cells #[] 5))) := alloc2_below _ _ _
    have HZ3 : Hid (W1.heap.size + 1 ≤ ((W1.alloc (.cells #[.int .i64 p.kind, .int .i64 p.key, .int .i64 p.elem, .int .i64 p.num, .string p.text, .slice ja p.ids.length jc, .slice ka (flen c) kc] 26)).alloc (.cells #[] 5)).heap.size) := by show _ ≤ _; simp
    have HMD : Hid (((W1.alloc (.cells #[.int .i64 p.kind, .int .i64 p.key, .int .i64 p.elem, .int .i64 p.num, .string p.text, .slice ja p.ids.length jc, .slice ka (flen c) kc] 26)).alloc (.cells #[] 5)).ownsRow (W1.heap.size + 1) 5 1 (.slice (some ⟨W1.heap.size + 1, 0, none⟩) 0 0) 0 []) := made2 _ _
    go_wp2_with (first | (at_builtin; refine wpList_append_src rfl (.tmp 29) (.tmp 30) 37 rfl (W1.heap.size + 1) 5 i0 (.int .u8 0) 1 Try.underlying37 hi hz0 hz1 hz2 rfl _ _ _ rfl HMD.out _ _ _ (c8 l) rfl (HSL.out _ HZ2.out) (c8_one l) HM.out.1 HM.out.2.1 HZ3.out ?_; intro v2 W2 hown2 hb2; have hb02 : Below (W1.heap.size + 1) (W1.alloc (.cells #[.int .i64 p.kind, .int .i64 p.key, .int .i64 p.elem, .int .i64 p.num, .string p.text, .slice ja p.ids.length jc, .slice ka (flen c) kc] 26)) W2 := HZ2.out.trans hb2; have HZ4 : Hid (W1.heap.size + 1 ≤ W2.heap.size) := Nat.le_trans HZ3.out hb2.size) | (at_builtin; refine wpList_append_src rfl (.tmp 31) (.tmp 32) 37 rfl (W1.heap.size + 1) 5 i0 (.int .u8 0) 1 Try.underlying37 hi hz0 hz1 hz2 rfl _ _ _ rfl hown2 _ _ _ (c8 m) rfl (HTL.out _ hb02) (c8_one m) HM.out.2.2.1 HM.out.2.2.2 HZ4.out ?_; intro v3 W3 hown3 hb3; have hb03 : Below (W1.heap.size + 1) (W1.alloc (.cells #[.int .i64 p.kind, .int .i64 p.key, .int .i64 p.elem, .int .i64 p.num, .string p.text, .slice ja p.ids.length jc, .slice ka (flen c) kc] 26)) W3 := hb02.trans hb3; have HO3 : Hid (W3.ownsRow (W1.heap.size + 1) 5 1 v3 (len0 + len1) (c8 (l ++ m))) := (by show World.ownsRow _ _ _ _ _ _ _; have h0 := hown3; rw [Nat.zero_add, List.nil_append, ← c8_append] at h0; exact h0); clear hown3; obtain ⟨ad3, cc3, rfl⟩ := own_sl HO3.out))
    have R2 := read_ok W3 ad3 (len0 + len1) cc3 (l ++ m) HLM.out (src_own HO3.out).2 (own_cap HO3.out) (by omega) lm8 HR2.out.1 n HR2.out.2
    refine R2.mono ?_
    rintro e W4 ⟨ja2, jc2, ka2, kc2, rfl, hin2, hb4⟩
    have hx3 : W3.heap[W1.heap.size]? = some (.cells #[.int .i64 p.kind, .int .i64 p.key, .int .i64 p.elem, .int .i64 p.num, .string p.text, .slice ja p.ids.length jc, .slice ka (flen c) kc] 26 (0, 0)) := (hb03.block _ (Nat.lt_succ_self _)).trans (heap_new W1 _)
    have hx4 := below_at hb4 hx3
    have hi4 := (hin.later (box_below hb03)).later hb4
    have hb5 := hb03.trans (hb4.mono (Nat.le_trans HZ4.out hb3.size))
    have hb6 := hb1.trans ((box_below hb5).mono hb1.size)
    have hi5 := hi4.later (alloc_below W4 (.cells #[.int .i64 p.kind, .int .i64 p.key, .int .i64 p.elem, .int .i64 p.num, .string p.text, .slice ja2 p.ids.length jc2, .slice ka2 (flen c) kc2] 26))
    have hj5 := hin2.later (alloc_below W4 (.cells #[.int .i64 p.kind, .int .i64 p.key, .int .i64 p.elem, .int .i64 p.num, .string p.text, .slice ja2 p.ids.length jc2, .slice ka2 (flen c) kc2] 26))
    have hx5 := below_at (alloc_below W4 (.cells #[.int .i64 p.kind, .int .i64 p.key, .int .i64 p.elem, .int .i64 p.num, .string p.text, .slice ja2 p.ids.length jc2, .slice ka2 (flen c) kc2] 26)) hx4
    have hy5 := heap_new W4 (.cells #[.int .i64 p.kind, .int .i64 p.key, .int .i64 p.elem, .int .i64 p.num, .string p.text, .slice ja2 p.ids.length jc2, .slice ka2 (flen c) kc2] 26)
    have hb7 := hb6.trans ((alloc_below W4 (.cells #[.int .i64 p.kind, .int .i64 p.key, .int .i64 p.elem, .int .i64 p.num, .string p.text, .slice ja2 p.ids.length jc2, .slice ka2 (flen c) kc2] 26)).mono hb6.size)
    have hlt4 := lt_of_heap hx4
    obtain ⟨⟨y0, y1, y2, y3, y4, y5, y6⟩, _⟩ := blk7 hx4
    clear HO3 hown2 hb2 R1 R2 HMD HZ2 HZ3 HSL HTL
    go_wp2_with fail
    refine (num_any 0 _).mono ?_
    rintro e wx ⟨rfl, hwx⟩
    obtain rfl := hwx.symm
    go_wp2_with fail
    have WR := write_ok p c (W4.alloc (.cells #[.int .i64 p.kind, .int .i64 p.key, .int .i64 p.elem, .int .i64 p.num, .string p.text, .slice ja2 p.ids.length jc2, .slice ka2 (flen c) kc2] 26)) ja jc ka kc hi5 HK.out.1 HK.out.2 (by have := HN.out; omega)
    rw [← HN.out.1] at WR
    generalize W4.alloc (.cells #[.int .i64 p.kind, .int .i64 p.key, .int .i64 p.elem, .int .i64 p.num, .string p.text, .slice ja2 p.ids.length jc2, .slice ka2 (flen c) kc2] 26) = W5 at *
    refine WR.mono ?_
    rintro e W6 ⟨ba, bc, rfl, hs6, hbc, hb8⟩
    have hb9 := hb7.trans (hb8.mono hb7.size)
    have hi6 := hi5.later hb8
    have hj6 := hj5.later hb8
    have hx6 := below_at hb8 hx5
    have hy6 := below_at hb8 hy5
    have S1 : ∀ d os, Sem.run Try.prog (convert 37 9 (.slice ba n bc)) (grow (redrawn W6 d) os) = .ok (.string (txt (valB p c))) (grow (redrawn W6 d) os) := fun d os => str_src (hs6.later (below_regrown W6 d os))
    have S2 : ∀ d os, Sem.run Try.prog (convert 37 9 (.slice a0 n cap0)) (grow (redrawn W6 d) os) = .ok (.string (txt (valB p c))) (grow (redrawn W6 d) os) := fun d os => by
      have h := src_take ((HS.out.later hb9).later (below_regrown W6 d os)) (n := n) (by omega)
      rw [HTK.out] at h
      exact str_src h
    have SA : ∀ d os, Calls Try.prog 26 #[val p c ja jc ka kc, val p c ja2 jc2 ka2 kc2] (grow (redrawn W6 d) os) fun e w'' => e = .returned (.bool true) ∧ ∃ p : Regrown, w'' = grow (redrawn W6 p.d) p.os := fun d os => by
      have h := same_any p c (grow (redrawn W6 d) os) ja jc ka kc p c ja2 jc2 ka2 kc2 (hi6.later (below_regrown W6 d os)) (hj6.later (below_regrown W6 d os))
      rw [sameP_refl, sameF_refl] at h
      exact Calls.regrown_of h
    have WK : ∀ d os, Calls Try.prog 11 #[] (grow (redrawn W6 d) os) fun e w'' => e = .returned (.bool true) ∧ ∃ p : Regrown, w'' = grow (redrawn W6 p.d) p.os := fun d os => Calls.regrown_of (works_any _)
    have NM : ∀ k d os, Calls Try.prog 16 #[.int .i64 k] (grow (redrawn W6 d) os) fun e w'' => e = .returned (.int .i64 k) ∧ ∃ p : Regrown, w'' = grow (redrawn W6 p.d) p.os := fun k d os => (num_any k _).mono fun e w' ⟨h1, h2⟩ => ⟨h1, ⟨d, os⟩, h2⟩
    have hncap : (n : Int) ≤ (cap0 : Int) := by omega
    obtain ⟨⟨x0, x1, x2, x3, x4, x5, x6⟩, _⟩ := blk7 hx6
    obtain ⟨⟨q0, q1, q2, q3, q4, q5, q6⟩, _⟩ := blk7 hy6
    have r0 := cell_regrown x0; have r1 := cell_regrown x1; have r2 := cell_regrown x2; have r3 := cell_regrown x3; have r4 := cell_regrown x4; have r5 := cell_regrown x5; have r6 := cell_regrown x6
    have t0 := cell_regrown q0; have t1 := cell_regrown q1; have t2 := cell_regrown q2; have t3 := cell_regrown q3; have t4 := cell_regrown q4; have t5 := cell_regrown q5; have t6 := cell_regrown q6
    generalize txt (valB p c) = T at *
    clear HK HR2 HN HTK WR hi4 hi5 hi6 hj5 hj6 hin hin2 hx3 hx4 hx5 hx6 hy5 hy6 x0 x1 x2 x3 x4 x5 x6 q0 q1 q2 q3 q4 q5 q6 y0 y1 y2 y3 y4 y5 y6 hs6
    go_wp2_with fail
    refine wp_region_quiet_below (by kernel_rfl) (by kernel_rfl) ?_
    repeat (go_big_quiet_step (first | exact NM _ _ _ | exact SA _ _ | exact WK _ _))
    refine wpQuiet_nil ?_
    intro _ hw'
    obtain ⟨⟨dq, osq⟩, hw''⟩ := hw'
    subst hw''
    have hbq := below_regrown W6 dq osq
    generalize grow (redrawn W6 dq) osq = wq at *
    go_wp2_with fail
    go_ret
    exact ⟨rfl, hb9.trans (hbq.mono hb9.size)⟩

set_option maxRecDepth 100000 in
theorem lifted (os : Os) (started : os.Started) (H : Type) (enc : TypeId × Value → H) :
    ReturnsInHanded {} Try.checked os 9 .any (Rows.thriftAgainSpec.pre6 enc Try.prog Try.f9 Rows.thriftAgainRow.domain false) (Rows.thriftAgainSpec.post enc Try.prog Try.f9 false true false false) := by
  refine returnsInHanded_of_change (C := Try.checked) own started (by kernel_rfl) Try.func9
    (ChangeSpec.witness6 (enc := enc) (C := Try.checked) false ⟨#[], #[.slice none 0 0, .slice none 0 0], []⟩ 8 (by kernel_rfl) (by kernel_rfl) (by kernel_rfl) (by kernel_rfl)) ?_
  intro W base args ds gs before hval0 hW hcnd _
  have hval : ∀ (j : Nat) t v, Try.f9.params[j]? = some t → args[j]? = some v → Value.okWide Try.prog W .any base t v := hval0
  have hW' := hW
  obtain ⟨p, q, hA0, hV, rfl, hfz, hnd⟩ := hW
  have hA : DataW.TrodAll enc Try.prog W 0 (fun _ => true) true Try.f9.params.toList args.toList ds p := hA0
  rw [Try.params9] at hA hval
  obtain ⟨v0, vs0, d0, ds0, p0, q0, hargs, rfl, rfl, h0, r0⟩ := trodAll_cons hA
  obtain ⟨v1, vs1, d1, ds1, p1, q1, rfl, rfl, rfl, h1, r1⟩ := trodAll_cons r0
  obtain ⟨rfl, rfl, rfl⟩ := trodAll_nil r1
  obtain rfl : args = #[v0, v1] := by cases args; simp_all
  obtain ⟨rfl, rfl⟩ := trodVars_none hV
  obtain ⟨a0, len0, cap0, rfl⟩ := okWide_slice Try.underlying37 (hval 0 37 v0 rfl rfl)
  have k0 := h0
  have lt0 : ∀ x ∈ p0, x.block < W.heap.size := by obtain ⟨m, hm⟩ := k0; exact DataW.trod_lt m _ _ _ hm
  obtain ⟨z0, w0⟩ := row_open h0
  obtain ⟨a1, len1, cap1, rfl⟩ := okWide_slice Try.underlying37 (hval 1 37 v1 rfl rfl)
  have k1 := h1
  have lt1 : ∀ x ∈ p1, x.block < W.heap.size := by obtain ⟨m, hm⟩ := k1; exact DataW.trod_lt m _ _ _ hm
  obtain ⟨z1, w1⟩ := row_open h1
  clear hA0 hval0
  refine (walk a0 len0 cap0 z0 a1 len1 cap1 z1 W w0 w1).mono fun e W' ⟨he, bel⟩ => ?_
  subst he
  exact ⟨_, rfl, _, _, _, [], _, [], hW', trodAll_mk1 (shut_bool Try.underlying4 _), (trodAll_cons_mk (Below.trod laidOut (by kernel_rfl) (of_decide_eq_true (by kernel_rfl)) k0 bel lt0) (trodAll_cons_mk (Below.trod laidOut (by kernel_rfl) (of_decide_eq_true (by kernel_rfl)) k1 bel lt1) trodAll_mk0)), rfl, bel.frame _, fun h => by cases h⟩

theorem over : Rows.thriftAgainRow.holds Try.pinned (OpenSpec.ofChange Rows.thriftAgainSpec) :=
  OpenClaim.holds_of_wide 9 Try.f9 rfl rfl rfl rfl rfl rfl rfl ⟨rfl, rfl, rfl, rfl, rfl⟩ rfl rfl rfl rfl rfl (by kernel_rfl) Try.func9 (by kernel_rfl)
    (of_decide_eq_true (by kernel_rfl)) (by unfold Func.isWrapper; first | (rw [if_pos (by decide +kernel)]; kernel_rfl) | (rw [if_neg (by decide +kernel)]; exact ⟨rfl, rfl⟩))
    (fun os started H enc _ => lifted os started H enc)

theorem proved : Rows.ThriftAgainSaid := over
#print axioms proved
end Go.Proofs.Ytikoddlidhefpaa.thriftAgain
namespace Go.Proofs.Ytikoddlidhefpaa
theorem thriftAgain_holds : Rows.ThriftAgainSaid := thriftAgain.proved
end Go.Proofs.Ytikoddlidhefpaa
