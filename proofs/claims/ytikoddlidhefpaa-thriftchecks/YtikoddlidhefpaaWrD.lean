/-
  The writer's fields, structures and values, and Write.
-/
import Derived.Test.YtikoddlidhefpaaWrC
import Derived.Deep.RegionWith
import Derived.Deep.RegionLaw
namespace Go.Proofs.Ytikoddlidhefpaa
set_option linter.unusedVariables false
open Go.ChangeShapes Go.WideShapes Go.ChangeAt Go.RowKit Go.Deep

set_option maxRecDepth 10000 in
set_option maxHeartbeats 2000000 in
theorem wfield_t (y z n : Int) (x : ByteArray) (l : List Int) (c : Fo) (w0 w : World) (B : Nat) (out : List Nat) (ia : Option Addr) (ic : Nat) (la : Option Addr) (lc : Nat) (last id : Int) (h0 : 0 ≤ last) (h1 : last < id) (h2 : id ≤ 32767) (hok : OkV ⟨1, y, z, n, x, l⟩ c) (hv : VIn w0 ⟨1, y, z, n, x, l⟩ c ia ic la lc) (hb0 : Below w0.heap.size w0 w) (hB : w0.heap.size ≤ B)
    (hl : out.length + (headB ⟨1, y, z, n, x, l⟩ id last ++ (([] : List Nat))).length + 100 ≤ 70368744177664) (h : Wr w B out) :
    Calls Try.prog 76 #[.pointer (some ⟨B, 0, none⟩), .int .i64 last, .int .i64 id, val ⟨1, y, z, n, x, l⟩ c ia ic la lc] w fun e w' => e = .returned (.tuple #[]) ∧ Wr w' B (out ++ (headB ⟨1, y, z, n, x, l⟩ id last ++ (([] : List Nat)))) ∧ WF B w w' := by
  have HB : Hid (B < w.heap.size) := h.lt
  have hab := alloc_below w (.cells #[.int .i64 (Pay.kind ⟨1, y, z, n, x, l⟩), .int .i64 (Pay.key ⟨1, y, z, n, x, l⟩), .int .i64 (Pay.elem ⟨1, y, z, n, x, l⟩), .int .i64 (Pay.num ⟨1, y, z, n, x, l⟩), .string (Pay.text ⟨1, y, z, n, x, l⟩), .slice ia (Pay.ids ⟨1, y, z, n, x, l⟩).length ic, .slice la (flen c) lc] 26)
  have hbx := bx_block w ⟨1, y, z, n, x, l⟩ c ia ic la lc
  have HL : Hid (out.length + (headB ⟨1, y, z, n, x, l⟩ id last ++ (([] : List Nat))).length + 100 ≤ 70368744177664) := hl
  have hW := h.later hab
  have hbn : w.heap.size ≠ B := by have := HB.out; omega
  have hwf0 : WF B w (bx w ⟨1, y, z, n, x, l⟩ c ia ic la lc) := WF.of_below hab
  obtain ⟨st, hst⟩ : ∃ s : Nat, id - last = s := ⟨(id - last).toNat, by omega⟩
  have hid : i64ok id := ⟨by omega, by omega⟩
  clear hl
  obtain ⟨tn, htn, htn2⟩ : ∃ t : Nat, truthN ⟨1, y, z, n, x, l⟩ = t ∧ t < 16 := ⟨_, rfl, by unfold truthN; split <;> omega⟩
  have T := byteOfTruth_any ⟨1, y, z, n, x, l⟩ c ia ic la lc (bx w ⟨1, y, z, n, x, l⟩ c ia ic la lc)
  have hT : (if (⟨1, y, z, n, x, l⟩ : Pay).num = 1 then 1 else 2 : Int) = ((tn : Nat) : Int) := by rw [← htn]; unfold truthN; split <;> rfl
  rw [hT] at T
  have htn' : (tn : Int) < 16 := by omega
  by_cases hs : id - last ≤ 15
  · have HH : Hid (headB ⟨1, y, z, n, x, l⟩ id last = [16 * st + tn]) := by show _ = _; unfold headB; rw [if_pos hs, hst]; simp [htn]
    go_enter Try.func76, Try.ntmps76
    go_wp2_with fail
    refine T.mono ?_
    rintro e W1 ⟨rfl, hW1⟩
    have hw1 := hW.later hW1
    have hbx1 : W1.heap[w.heap.size]? = _ := (WF.of_below (B := B) hW1).box hbx hbn tTh_ne
    obtain ⟨y0, y1, y2, y3, y4, y5, y6⟩ := box7 (p := ⟨1, y, z, n, x, l⟩) hbx1
    simp only at y0 y1 y2 y3 y4 y5
    have L := layHalves_any W1 B out st tn (by omega) htn2 (by have := HL.out; omega) hw1
    rw [← HH.out] at L
    clear T
    go_wp2_with fail
    refine L.mono ?_
    rintro e W2 ⟨rfl, hW2, hf2⟩
    obtain ⟨u0, _⟩ := box7 (p := ⟨1, y, z, n, x, l⟩) (hf2.box hbx1 hbn tTh_ne)
    simp only at u0
    go_wp2_with fail
    go_end0
    exact ⟨rfl, by rw [List.append_nil]; exact hW2, hwf0.trans ((WF.of_below hW1).trans hf2)⟩
  · have hs' : 15 < id - last := by omega
    have HH : Hid (headB ⟨1, y, z, n, x, l⟩ id last = [16 * 0 + tn] ++ numB (zig id)) := by show _ = _; simp [headB, hs, htn]
    go_enter Try.func76, Try.ntmps76
    go_wp2_with fail
    refine T.mono ?_
    rintro e W1 ⟨rfl, hW1⟩
    have hw1 := hW.later hW1
    have hbx1 : W1.heap[w.heap.size]? = _ := (WF.of_below (B := B) hW1).box hbx hbn tTh_ne
    obtain ⟨y0, y1, y2, y3, y4, y5, y6⟩ := box7 (p := ⟨1, y, z, n, x, l⟩) hbx1
    simp only at y0 y1 y2 y3 y4 y5
    have L := layHalves_any W1 B out 0 tn (by omega) htn2 (by have := HL.out; omega) hw1
    clear T
    go_wp2_with fail
    refine L.mono ?_
    rintro e W2 ⟨rfl, hW2, hf2⟩
    have N := wsigned_any W2 B _ id hid (by have := HL.out; simp only [List.length_append, List.length_cons, List.length_nil]; omega) hW2
    rw [List.append_assoc, ← HH.out] at N
    clear L
    go_wp2_with fail
    refine N.mono ?_
    rintro e W3 ⟨rfl, hW3, hf3⟩
    obtain ⟨u0, _⟩ := box7 (p := ⟨1, y, z, n, x, l⟩) ((hf2.trans hf3).box hbx1 hbn tTh_ne)
    simp only at u0
    go_wp2_with fail
    go_end0
    exact ⟨rfl, by rw [List.append_nil]; exact hW3, hwf0.trans ((WF.of_below hW1).trans (hf2.trans hf3))⟩

set_option maxRecDepth 10000 in
set_option maxHeartbeats 2000000 in
theorem wfield_n (p : Pay) (c : Fo) (hk : ¬ p.kind = 1) (ih : WVC p c) (w0 w : World) (B : Nat) (out : List Nat) (ia : Option Addr) (ic : Nat) (la : Option Addr) (lc : Nat) (last id : Int) (h0 : 0 ≤ last) (h1 : last < id) (h2 : id ≤ 32767) (hok : OkV p c) (hv : VIn w0 p c ia ic la lc) (hb0 : Below w0.heap.size w0 w) (hB : w0.heap.size ≤ B)
    (hl : out.length + (headB p id last ++ (valB p c)).length + 100 ≤ 70368744177664) (h : Wr w B out) :
    Calls Try.prog 76 #[.pointer (some ⟨B, 0, none⟩), .int .i64 last, .int .i64 id, val p c ia ic la lc] w fun e w' => e = .returned (.tuple #[]) ∧ Wr w' B (out ++ (headB p id last ++ (valB p c))) ∧ WF B w w' := by
  have HB : Hid (B < w.heap.size) := h.lt
  have hab := alloc_below w (.cells #[.int .i64 (Pay.kind p), .int .i64 (Pay.key p), .int .i64 (Pay.elem p), .int .i64 (Pay.num p), .string (Pay.text p), .slice ia (Pay.ids p).length ic, .slice la (flen c) lc] 26)
  have hbx := bx_block w p c ia ic la lc
  have HL : Hid (out.length + (headB p id last ++ (valB p c)).length + 100 ≤ 70368744177664) := hl
  have hW := h.later hab
  have hbn : w.heap.size ≠ B := by have := HB.out; omega
  have hwf0 : WF B w (bx w p c ia ic la lc) := WF.of_below hab
  obtain ⟨st, hst⟩ : ∃ s : Nat, id - last = s := ⟨(id - last).toNat, by omega⟩
  have hid : i64ok id := ⟨by omega, by omega⟩
  clear hl
  obtain ⟨kk, hkk, hkk2⟩ := kind_nat hok.known
  have HKK : Hid (p.kind = (kk : Int)) := hkk
  have hkn : p.kind.toNat = kk := by omega
  clear hkk
  by_cases hs : id - last ≤ 15
  · have HH : Hid (headB p id last = [16 * st + kk]) := by show _ = _; unfold headB; rw [if_pos hs, hst]; simp [hk, hkn]
    have L := layHalves_any _ B out st kk (by omega) hkk2 (by have := HL.out; omega) hW
    rw [← HH.out, ← HKK.out] at L
    clear hkn
    go_enter Try.func76, Try.ntmps76
    go_wp2_with fail
    refine L.mono ?_
    rintro e W1 ⟨rfl, hW1, hf1⟩
    have hwf1 := hwf0.trans hf1
    obtain ⟨y0, y1, y2, y3, y4, y5, y6⟩ := box7 (hf1.box hbx hbn tTh_ne)
    have V := ih w0 W1 B _ ia ic la lc hok hv (WF.old hb0 hwf1 hB (Nat.le_of_lt HB.out)) hB (by have := HL.out; simp only [List.length_append] at this ⊢; omega) hW1
    rw [List.append_assoc] at V
    clear L
    go_wp2_with fail
    refine V.mono ?_
    rintro e W2 ⟨rfl, hW2, hf2⟩
    go_wp2_with fail
    go_end0
    exact ⟨rfl, hW2, hwf1.trans hf2⟩
  · have hs' : 15 < id - last := by omega
    have HH : Hid (headB p id last = [16 * 0 + kk] ++ numB (zig id)) := by show _ = _; simp [headB, hs, hk, hkn]
    have L := layHalves_any _ B out 0 kk (by omega) hkk2 (by have := HL.out; omega) hW
    rw [← HKK.out] at L
    clear hkn
    go_enter Try.func76, Try.ntmps76
    go_wp2_with fail
    refine L.mono ?_
    rintro e W1 ⟨rfl, hW1, hf1⟩
    have N := wsigned_any W1 B _ id hid (by have := HL.out; simp only [List.length_append, List.length_cons, List.length_nil]; omega) hW1
    rw [List.append_assoc, ← HH.out] at N
    clear L
    go_wp2_with fail
    refine N.mono ?_
    rintro e W2 ⟨rfl, hW2, hf2⟩
    have hwf1 := hwf0.trans (hf1.trans hf2)
    obtain ⟨y0, y1, y2, y3, y4, y5, y6⟩ := box7 ((hf1.trans hf2).box hbx hbn tTh_ne)
    have V := ih w0 W2 B _ ia ic la lc hok hv (WF.old hb0 hwf1 hB (Nat.le_of_lt HB.out)) hB (by have := HL.out; simp only [List.length_append] at this ⊢; omega) hW2
    rw [List.append_assoc] at V
    clear N
    go_wp2_with fail
    refine V.mono ?_
    rintro e W3 ⟨rfl, hW3, hf3⟩
    go_wp2_with fail
    go_end0
    exact ⟨rfl, hW3, hwf1.trans hf3⟩

theorem wfield_any (p : Pay) (c : Fo) (ih : WVC p c) (w0 w : World) (B : Nat) (out : List Nat) (ia : Option Addr) (ic : Nat) (la : Option Addr) (lc : Nat) (last id : Int) (h0 : 0 ≤ last) (h1 : last < id) (h2 : id ≤ 32767) (hok : OkV p c) (hv : VIn w0 p c ia ic la lc) (hb0 : Below w0.heap.size w0 w) (hB : w0.heap.size ≤ B)
    (hl : out.length + (headB p id last ++ (if p.kind = 1 then [] else valB p c)).length + 100 ≤ 70368744177664) (h : Wr w B out) :
    Calls Try.prog 76 #[.pointer (some ⟨B, 0, none⟩), .int .i64 last, .int .i64 id, val p c ia ic la lc] w fun e w' => e = .returned (.tuple #[]) ∧ Wr w' B (out ++ (headB p id last ++ (if p.kind = 1 then [] else valB p c))) ∧ WF B w w' := by
  by_cases hk : p.kind = 1
  · obtain ⟨k, y, z, n, x, l⟩ := p
    simp only at hk
    subst hk
    simp only [if_true] at hl ⊢
    exact wfield_t y z n x l c w0 w B out ia ic la lc last id h0 h1 h2 hok hv hb0 hB hl h
  · simp only [if_neg hk] at hl ⊢
    exact wfield_n p c hk ih w0 w B out ia ic la lc last id h0 h1 h2 hok hv hb0 hB hl h
end Go.Proofs.Ytikoddlidhefpaa
