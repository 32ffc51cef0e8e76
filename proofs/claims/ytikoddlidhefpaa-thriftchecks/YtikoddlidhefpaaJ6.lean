/-
  The writer's fields, structures and values, and Write.
-/
import Derived.Test.YtikoddlidhefpaaWrC
import Derived.Deep.RegionWith
import Derived.Deep.RegionLaw
namespace Go.Proofs.Ytikoddlidhefpaa
set_option linter.unusedVariables false
open Go.ChangeShapes Go.WideShapes Go.ChangeAt Go.RowKit Go.Deep

set_option maxRecDepth 10000 in
set_option maxHeartbeats 2000000 in
theorem wfield_t (y z n : Int) (x : ByteArray) (l : List Int) (c : Fo) (w0 w : World) (B : Nat) (out : List Nat) (ia : Option Addr) (ic : Nat) (la : Option Addr) (lc : Nat) (last id : Int) (h0 : 0 ≤ last) (h1 : last < id) (h2 : id ≤ 32767) (hok : OkV ⟨1, y, z, n, x, l⟩ c) (hv : VIn w0 ⟨1, y, z, n, x, l⟩ c ia ic la lc) (hb0 : Below w0.heap.size w0 w) (hB : w0.heap.size ≤ B)
    (hl : out.length + (headB ⟨1, y, z, n, x, l⟩ id last ++ (([] : List Nat))).length + 100 ≤ 70368744177664) (h : Wr w B out) :
    Calls Try.prog 76 #[.pointer (some ⟨B, 0, none⟩), .int .i64 last, .int .i64 id, val ⟨1, y, z, n, x, l⟩ c ia ic la lc] w fun e w' => e = .returned (.tuple #[]) ∧ Wr w' B (out ++ (headB ⟨1, y, z, n, x, l⟩ id last ++ (([] : List Nat)))) ∧ WF B w w' := by
  have HB : Hid (B < w.heap.size) := h.lt
  have hab := alloc_below w (.cells #[.int .i64 (Pay.kind ⟨1, y, z, n, x, l⟩), .int .i64 (Pay.key ⟨1, y, z, n, x, l⟩), .int .i64 (Pay.elem ⟨1, y, z, n, x, l⟩), .int .i64 (Pay.num ⟨1, y, z, n, x, l⟩), .string (Pay.text ⟨1, y, z, n, x, l⟩), .slice ia (Pay.ids ⟨1, y, z, n, x, l⟩).length ic, .slice la (flen c) lc] 26)
  have hbx := bx_block w ⟨1, y, z, n, x, l⟩ c ia ic la lc
  have HL : Hid (out.length + (headB ⟨1, y, z, n, x, l⟩ id last ++ (([] : List Nat))).length + 100 ≤ 70368744177664) := hl
  have hW := h.later hab
  have hbn : w.heap.size ≠ B := by have := HB.out; omega
  have hwf0 : WF B w (bx w ⟨1, y, z, n, x, l⟩ c ia ic la lc) := WF.of_below hab
  obtain ⟨st, hst⟩ : ∃ s : Nat, id - last = s := ⟨(id - last).toNat, by omega⟩
  have hid : i64ok id := ⟨by omega, by omega⟩
  clear hl
  obtain ⟨tn, htn, htn2⟩ : ∃ t : Nat, truthN ⟨1, y, z, n, x, l⟩ = t ∧ t < 16 := ⟨_, rfl, by unfold truthN; split <;> omega⟩
  have T := byteOfTruth_any ⟨1, y, z, n, x, l⟩ c ia ic la lc (bx w ⟨1, y, z, n, x, l⟩ c ia ic la lc)
  have hT : (if (⟨1, y, z, n, x, l⟩ : Pay).num = 1 then 1 else 2 : Int) = ((tn : Nat) : Int) := by rw [← htn]; unfold truthN; split <;> rfl
  rw [hT] at T
  have htn' : (tn : Int) < 16 := by omega
  by_cases hs : id - last ≤ 15
  · have HH : Hid (headB ⟨1, y, z, n, x, l⟩ id last = [16 * st + tn]) := by show _ = _; unfold headB; rw [if_pos hs, hst]; simp [htn]
    go_enter Try.func76, Try.ntmps76
    go_wp2_with fail
    refine T.mono ?_
    rintro e W1 ⟨rfl, hW1⟩
    have hw1 := hW.later hW1
    have hbx1 : W1.heap[w.heap.size]? = _ := (WF.of_below (B := B) hW1).box hbx hbn tTh_ne
    obtain ⟨y0, y1, y2, y3, y4, y5, y6⟩ := box7 (p := ⟨1, y, z, n, x, l⟩) hbx1
    simp only at y0 y1 y2 y3 y4 y5
    have L := layHalves_any W1 B out st tn (by omega) htn2 (by have := HL.out; omega) hw1
    rw [← HH.out] at L
    clear T
    go_wp2_with fail
    refine L.mono ?_
    rintro e W2 ⟨rfl, hW2, hf2⟩
    obtain ⟨u0, _⟩ := box7 (p := ⟨1, y, z, n, x, l⟩) (hf2.box hbx1 hbn tTh_ne)
    simp only at u0
    go_wp2_with fail
    go_end0
    exact ⟨rfl, by rw [List.append_nil]; exact hW2, hwf0.trans ((WF.of_below hW1).trans hf2)⟩
  · have hs' : 15 < id - last := by omega
    have HH : Hid (headB ⟨1, y, z, n, x, l⟩ id last = [16 * 0 + tn] ++ numB (zig id)) := by show _ = _; simp [headB, hs, htn]
    go_enter Try.func76, Try.ntmps76
    go_wp2_with fail
    refine T.mono ?_
    rintro e W1 ⟨rfl, hW1⟩
    have hw1 := hW.later hW1
    have hbx1 : W1.heap[w.heap.size]? = _ := (WF.of_below (B := B) hW1).box hbx hbn tTh_ne
    obtain ⟨y0, y1, y2, y3, y4, y5, y6⟩ := box7 (p := ⟨1, y, z, n, x, l⟩) hbx1
    simp only at y0 y1 y2 y3 y4 y5
    have L := layHalves_any W1 B out 0 tn (by omega) htn2 (by have := HL.out; omega) hw1
    clear T
    go_wp2_with fail
    refine L.mono ?_
    rintro e W2 ⟨rfl, hW2, hf2⟩
    have N := wsigned_any W2 B _ id hid (by have := HL.out; simp only [List.length_append, List.length_cons, List.length_nil]; omega) hW2
    rw [List.append_assoc, ← HH.out] at N
    clear L
    go_wp2_with fail
    refine N.mono ?_
    rintro e W3 ⟨rfl, hW3, hf3⟩
    obtain ⟨u0, _⟩ := box7 (p := ⟨1, y, z, n, x, l⟩) ((hf2.trans hf3).box hbx1 hbn tTh_ne)
    simp only at u0
    go_wp2_with fail
    go_end0
    exact ⟨rfl, by rw [List.append_nil]; exact hW3, hwf0.trans ((WF.of_below hW1).trans (hf2.trans hf3))⟩

set_option maxRecDepth 10000 in
set_option maxHeartbeats 2000000 in
theorem wfield_n (p : Pay) (c : Fo) (hk : ¬ p.kind = 1) (ih : WVC p c) (w0 w : World) (B : Nat) (out : List Nat) (ia : Option Addr) (ic : Nat) (la : Option Addr) (lc : Nat) (last id : Int) (h0 : 0 ≤ last) (h1 : last < id) (h2 : id ≤ 32767) (hok : OkV p c) (hv : VIn w0 p c ia ic la lc) (hb0 : Below w0.heap.size w0 w) (hB : w0.heap.size ≤ B)
    (hl : out.length + (headB p id last ++ (valB p c)).length + 100 ≤ 70368744177664) (h : Wr w B out) :
    Calls Try.prog 76 #[.pointer (some ⟨B, 0, none⟩), .int .i64 last, .int .i64 id, val p c ia ic la lc] w fun e w' => e = .returned (.tuple #[]) ∧ Wr w' B (out ++ (headB p id last ++ (valB p c))) ∧ WF B w w' := by
  have HB : Hid (B < w.heap.size) := h.lt
  have hab := alloc_below w (.cells #[.int .i64 (Pay.kind p), .int .i64 (Pay.key p), .int .i64 (Pay.elem p), .int .i64 (Pay.num p), .string (Pay.text p), .slice ia (Pay.ids p).length ic, .slice la (flen c) lc] 26)
  have hbx := bx_block w p c ia ic la lc
  have HL : Hid (out.length + (headB p id last ++ (valB p c)).length + 100 ≤ 70368744177664) := hl
  have hW := h.later hab
  have hbn : w.heap.size ≠ B := by have := HB.out; omega
  have hwf0 : WF B w (bx w p c ia ic la lc) := WF.of_below hab
  obtain ⟨st, hst⟩ : ∃ s : Nat, id - last = s := ⟨(id - last).toNat, by omega⟩
  have hid : i64ok id := ⟨by omega, by omega⟩
  clear hl
  obtain ⟨kk, hkk, hkk2⟩ := kind_nat hok.known
  have HKK : Hid (p.kind = (kk : Int)) := hkk
  have hkn : p.kind.toNat = kk := by omega
  clear hkk
  by_cases hs : id - last ≤ 15
  · have HH : Hid (headB p id last = [16 * st + kk]) := by show _ = _; unfold headB; rw [if_pos hs, hst]; simp [hk, hkn]
    have L := layHalves_any _ B out st kk (by omega) hkk2 (by have := HL.out; omega) hW
    rw [← HH.out, ← HKK.out] at L
    clear hkn
    go_enter Try.func76, Try.ntmps76
    go_wp2_with fail
    refine L.mono ?_
    rintro e W1 ⟨rfl, hW1, hf1⟩
    have hwf1 := hwf0.trans hf1
    obtain ⟨y0, y1, y2, y3, y4, y5, y6⟩ := box7 (hf1.box hbx hbn tTh_ne)
    have V := ih w0 W1 B _ ia ic la lc hok hv (WF.old hb0 hwf1 hB (Nat.le_of_lt HB.out)) hB (by have := HL.out; simp only [List.length_append] at this ⊢; omega) hW1
    rw [List.append_assoc] at V
    clear L
    go_wp2_with fail
    refine V.mono ?_
    rintro e W2 ⟨rfl, hW2, hf2⟩
    go_wp2_with fail
    go_end0
    exact ⟨rfl, hW2, hwf1.trans hf2⟩
  · have hs' : 15 < id - last := by omega
    have HH : Hid (headB p id last = [16 * 0 + kk] ++ numB (zig id)) := by show _ = _; simp [headB, hs, hk, hkn]
    have L := layHalves_any _ B out 0 kk (by omega) hkk2 (by have := HL.out; omega) hW
    rw [← HKK.out] at L
    clear hkn
    go_enter Try.func76, Try.ntmps76
    go_wp2_with fail
    refine L.mono ?_
    rintro e W1 ⟨rfl, hW1, hf1⟩
    have N := wsigned_any W1 B _ id hid (by have := HL.out; simp only [List.length_append, List.length_cons, List.length_nil]; omega) hW1
    rw [List.append_assoc, ← HH.out] at N
    clear L
    go_wp2_with fail
    refine N.mono ?_
    rintro e W2 ⟨rfl, hW2, hf2⟩
    have hwf1 := hwf0.trans (hf1.trans hf2)
    obtain ⟨y0, y1, y2, y3, y4, y5, y6⟩ := box7 ((hf1.trans hf2).box hbx hbn tTh_ne)
    have V := ih w0 W2 B _ ia ic la lc hok hv (WF.old hb0 hwf1 hB (Nat.le_of_lt HB.out)) hB (by have := HL.out; simp only [List.length_append] at this ⊢; omega) hW2
    rw [List.append_assoc] at V
    clear N
    go_wp2_with fail
    refine V.mono ?_
    rintro e W3 ⟨rfl, hW3, hf3⟩
    go_wp2_with fail
    go_end0
    exact ⟨rfl, hW3, hwf1.trans hf3⟩

theorem wfield_any (p : Pay) (c : Fo) (ih : WVC p c) (w0 w : World) (B : Nat) (out : List Nat) (ia : Option Addr) (ic : Nat) (la : Option Addr) (lc : Nat) (last id : Int) (h0 : 0 ≤ last) (h1 : last < id) (h2 : id ≤ 32767) (hok : OkV p c) (hv : VIn w0 p c ia ic la lc) (hb0 : Below w0.heap.size w0 w) (hB : w0.heap.size ≤ B)
    (hl : out.length + (headB p id last ++ (if p.kind = 1 then [] else valB p c)).length + 100 ≤ 70368744177664) (h : Wr w B out) :
    Calls Try.prog 76 #[.pointer (some ⟨B, 0, none⟩), .int .i64 last, .int .i64 id, val p c ia ic la lc] w fun e w' => e = .returned (.tuple #[]) ∧ Wr w' B (out ++ (headB p id last ++ (if p.kind = 1 then [] else valB p c))) ∧ WF B w w' := by
  by_cases hk : p.kind = 1
  · obtain ⟨k, y, z, n, x, l⟩ := p
    simp only at hk
    subst hk
    simp only [if_true] at hl ⊢
    exact wfield_t y z n x l c w0 w B out ia ic la lc last id h0 h1 h2 hok hv hb0 hB hl h
  · simp only [if_neg hk] at hl ⊢
    exact wfield_n p c hk ih w0 w B out ia ic la lc last id h0 h1 h2 hok hv hb0 hB hl h
end Go.Proofs.Ytikoddlidhefpaa

/-
  The writer's structures and values, and Write.
-/
namespace Go.Proofs.Ytikoddlidhefpaa
set_option linter.unusedVariables false
open Go.ChangeShapes Go.WideShapes Go.ChangeAt Go.RowKit Go.Deep

set_option maxRecDepth 10000 in
set_option maxHeartbeats 4000000 in
theorem wstructure_any (p : Pay) (c : Fo) (ih : ∀ x ∈ elems c, WVC x.1 x.2) (w0 w : World) (B : Nat) (out : List Nat) (ia : Option Addr) (ic : Nat) (la : Option Addr) (lc : Nat) (hk : p.kind = 12) (hok : OkV p c) (hv : VIn w0 p c ia ic la lc) (hb0 : Below w0.heap.size w0 w) (hB : w0.heap.size ≤ B) (hl : out.length + (valB p c).length + 100 ≤ 70368744177664) (h : Wr w B out) :
    Calls Try.prog 59 #[.pointer (some ⟨B, 0, none⟩), val p c ia ic la lc] w fun e w' => e = .returned (.tuple #[]) ∧ Wr w' B (out ++ valB p c) ∧ WF B w w' := by
  have HB : Hid (B < w.heap.size) := h.lt
  have t3 := hv.len
  have t3' : (flen c : Int) ≤ 140737488355328 := by omega
  have hkb := hok.kind
  have hkb' : (decide (flen c = p.ids.length) && risingB p.ids 0) = true := by simpa [kindB, hk] using hkb
  simp only [Bool.and_eq_true, decide_eq_true_eq] at hkb'
  have HI : Hid (flen c = p.ids.length) := hkb'.1
  have HVB : Hid (valB p c = encF c true p.ids 0) := by show _ = _; simp [valB, preB, hk]
  have hab := alloc_below w (.cells #[.int .i64 p.kind, .int .i64 p.key, .int .i64 p.elem, .int .i64 p.num, .string p.text, .slice ia p.ids.length ic, .slice la (flen c) lc] 26)
  have hbx := bx_block w p c ia ic la lc
  have HL : Hid (out.length + (encF c true p.ids 0).length + 100 ≤ 70368744177664) := by have := hl; rwa [HVB.out] at this
  have hW := h.later hab
  have hbn : w.heap.size ≠ B := by have := HB.out; omega
  have hwf0 : WF B w (bx w p c ia ic la lc) := WF.of_below hab
  have HR : Hid (risingB p.ids 0 = true) := hkb'.2
  clear hl hkb hkb' hk
  go_enter Try.func59, Try.ntmps59
  go_wp2_with fail
  go_loopw [4, 10] (fun av iv wr => ∃ (i : Nat) (last : Int) (done : List Nat), i ≤ flen c ∧ iv = .int .i64 i ∧ av = .int .i64 last ∧ 0 ≤ last ∧ last ≤ 32767 ∧ Hid (risingB (p.ids.drop i) last = true) ∧ Hid (done ++ encF (fdrop c i) true (p.ids.drop i) last = encF c true p.ids 0) ∧ Hid (Wr wr B (out ++ done)) ∧ WF B (bx w p c ia ic la lc) wr) (fun _ iv _ => flen c - (intOf iv).toNat)
  case atStart => exact ⟨0, 0, [], Nat.zero_le _, rfl, rfl, by omega, by omega, HR.out, by cases c <;> rfl, by rw [List.append_nil]; exact hW, WF.refl _ _⟩
  case round =>
    obtain ⟨i, last, done, hi, rfl, rfl, l0, l1, HRi, HE, HW, hwf⟩ := hrel
    have hwf1 := hwf0.trans hwf
    have hold := WF.old hb0 hwf1 hB (Nat.le_of_lt HB.out)
    have hbx1 := hwf.box hbx hbn tTh_ne
    obtain ⟨y0, y1, y2, y3, y4, y5, y6⟩ := box7 hbx1
    by_cases hlt : i < flen c
    · have hlt' : (i : Int) < (flen c : Int) := by omega
      have hli : i < p.ids.length := by have := HI.out; omega
      have hli' : (i : Int) < (p.ids.length : Int) := by omega
      obtain ⟨q, d, b, o, ja, jc, na, nc, bt, ot, _, hm, ef, rfl, hbl, hv', k0, k1, k2, k3, k4, k5, k6⟩ := row_at hv.list hlt
      have d0 := cell_later hold k0; have d1 := cell_later hold k1; have d2 := cell_later hold k2; have d3 := cell_later hold k3; have d4 := cell_later hold k4; have d5 := cell_later hold k5; have d6 := cell_later hold k6
      obtain ⟨g, off, rfl, kid⟩ := ids_at hv.ids hli
      have did := cell_later hold kid
      have KID : Hid _ := kid
      clear k0 k1 k2 k3 k4 k5 k6 kid
      have hdr := drop_cons (i := i) hli
      have HRS : Hid (last < p.ids.getD i 0 ∧ p.ids.getD i 0 ≤ 32767 ∧ risingB (p.ids.drop (i + 1)) (p.ids.getD i 0) = true) := by
        have := HRi.out
        rw [hdr] at this
        simp only [risingB, Bool.and_eq_true, decide_eq_true_eq] at this
        exact ⟨this.1.1, this.1.2, this.2⟩
      have HE' : Hid ((done ++ (headB q (p.ids.getD i 0) last ++ (if q.kind = 1 then [] else valB q d))) ++ encF (fdrop c (i + 1)) true (p.ids.drop (i + 1)) (p.ids.getD i 0) = encF c true p.ids 0) := by
        show _ = _
        rw [← HE.out, ef, hdr, encF_fld]
        simp
      clear HE ef hdr HRi
      generalize p.ids.getD i 0 = id at *
      have id1 := HRS.out.1
      have id2 := HRS.out.2.1
      have hab2 := alloc_below wr (.cells #[.int .i64 q.kind, .int .i64 q.key, .int .i64 q.elem, .int .i64 q.num, .string q.text, .slice ja q.ids.length jc, .slice na (flen d) nc] 26)
      have K := fun W (hW' : Below wr.heap.size wr W) => wfield_any q d (ih _ hm) w0 W B (out ++ done) ja jc na nc last id l0 id1 id2 (hok.list _ hm) hv' (hold.trans (hW'.mono hold.size)) hB (by
        have h1 := HL.out
        have h2 := congrArg List.length HE'.out
        simp only [List.length_append] at h1 h2 ⊢
        omega) (HW.out.later hW')
      have b1 : b < wr.heap.size := block_lt_of_cell d0
      have b2 : g < wr.heap.size := block_lt_of_cell did
      have b3 : w.heap.size < wr.heap.size := block_lt_of_cell y5
      go_wp2_with fail
      go_region_with (go_at_call 76; refine (K _ hab2.drew).mono ?_; rintro e wz ⟨rfl, hwz, hfz⟩; have hwf2 := hwf.trans ((WF.of_below hab2.drew).trans hfz); obtain ⟨z0, z1, z2, z3, z4, z5, z6⟩ := box7 (hwf2.box hbx hbn tTh_ne); have did2 := cell_later (WF.old hb0 (hwf0.trans hwf2) hB (Nat.le_of_lt HB.out)) KID.out; clear y0 y1 y2 y3 y4 y5 y6 did hfz)
      all_goals (
        go_wp2_with fail
        go_roundw
        case rel => exact ⟨i + 1, id, _, by omega, by go_num, rfl, by omega, by omega, HRS.out.2.2, HE', by rw [← List.append_assoc]; exact hwz, hwf2⟩
        case measure => simp [intOf]; omega)
    · have hlt' : (flen c : Int) ≤ (i : Int) := by omega
      have HE' : Hid ((done ++ [0]) = encF c true p.ids 0) := by
        have := HE.out
        rw [show fdrop c i = .nil by rw [show i = flen c by omega]; exact fdrop_end c] at this
        exact this
      have L := lay_any wr B (out ++ done) 0 (by have h1 := HL.out; have h2 := congrArg List.length HE'.out; simp only [List.length_append, List.length_cons, List.length_nil] at h1 h2 ⊢; omega) HW.out
      rw [List.append_assoc, HE'.out, ← HVB.out] at L
      go_wp2_with fail
      refine L.mono ?_
      rintro e wz ⟨rfl, hwz, hfz⟩
      go_wp2_with fail
      go_end0
      exact ⟨rfl, hwz, hwf1.trans hfz⟩
end Go.Proofs.Ytikoddlidhefpaa

/-
  The writer's values, and Write.
-/
namespace Go.Proofs.Ytikoddlidhefpaa
set_option linter.unusedVariables false
set_option linter.unusedSimpArgs false
open Go.ChangeShapes Go.WideShapes Go.ChangeAt Go.RowKit Go.Deep

set_option maxRecDepth 10000 in
set_option maxHeartbeats 2000000 in
theorem wvalue_1 (y z n : Int) (x : ByteArray) (l : List Int) (c : Fo) (w0 w : World) (B : Nat) (out : List Nat) (ia : Option Addr) (ic : Nat) (la : Option Addr) (lc : Nat) (hok : OkV ⟨1, y, z, n, x, l⟩ c) (hv : VIn w0 ⟨1, y, z, n, x, l⟩ c ia ic la lc) (hb0 : Below w0.heap.size w0 w) (hB : w0.heap.size ≤ B) (hl : out.length + (valB ⟨1, y, z, n, x, l⟩ c).length + 100 ≤ 70368744177664) (h : Wr w B out) :
    Calls Try.prog 33 #[.pointer (some ⟨B, 0, none⟩), val ⟨1, y, z, n, x, l⟩ c ia ic la lc] w fun e w' => e = .returned (.tuple #[]) ∧ Wr w' B (out ++ valB ⟨1, y, z, n, x, l⟩ c) ∧ WF B w w' := by
  have HB : Hid (B < w.heap.size) := h.lt
  have hab : Below w.heap.size w (bx w ⟨1, y, z, n, x, l⟩ c ia ic la lc) := alloc_below w _
  have hbx := bx_block w ⟨1, y, z, n, x, l⟩ c ia ic la lc
  have HL : Hid (out.length + (valB ⟨1, y, z, n, x, l⟩ c).length + 100 ≤ 70368744177664) := hl
  have hW := h.later hab
  have hbn : w.heap.size ≠ B := by have := HB.out; omega
  have hwf0 : WF B w (bx w ⟨1, y, z, n, x, l⟩ c ia ic la lc) := WF.of_below hab
  have hn := hv.ok.num
  simp only at hn
  clear hl
  have HV : Hid (valB ⟨1, y, z, n, x, l⟩ c = [truthN ⟨1, y, z, n, x, l⟩]) := by show _ = _; simp [valB, preB]
  have T := byteOfTruth_any ⟨1, y, z, n, x, l⟩ c ia ic la lc (bx w ⟨1, y, z, n, x, l⟩ c ia ic la lc)
  have hT : (if (⟨1, y, z, n, x, l⟩ : Pay).num = 1 then 1 else 2 : Int) = ((truthN ⟨1, y, z, n, x, l⟩ : Nat) : Int) := by unfold truthN; split <;> rfl
  rw [hT] at T
  obtain ⟨tn, htn⟩ : ∃ t, truthN ⟨1, y, z, n, x, l⟩ = t := ⟨_, rfl⟩
  rw [htn] at T HV
  clear hT htn
  go_enter Try.func33, Try.ntmps33
  go_wp2_with fail
  refine T.mono ?_
  rintro e W1 ⟨rfl, hW1⟩
  have L := lay_any W1 B out tn (by have := HL.out; omega) (hW.later hW1)
  rw [← HV.out] at L
  clear T
  go_wp2_with fail
  refine L.mono ?_
  rintro e W2 ⟨rfl, hW2, hf2⟩
  go_wp2_with fail
  go_end0
  exact ⟨rfl, hW2, hwf0.trans ((WF.of_below hW1).trans hf2)⟩

set_option maxRecDepth 10000 in
set_option maxHeartbeats 2000000 in
theorem wvalue_3 (y z n : Int) (x : ByteArray) (l : List Int) (c : Fo) (w0 w : World) (B : Nat) (out : List Nat) (ia : Option Addr) (ic : Nat) (la : Option Addr) (lc : Nat) (hok : OkV ⟨3, y, z, n, x, l⟩ c) (hv : VIn w0 ⟨3, y, z, n, x, l⟩ c ia ic la lc) (hb0 : Below w0.heap.size w0 w) (hB : w0.heap.size ≤ B) (hl : out.length + (valB ⟨3, y, z, n, x, l⟩ c).length + 100 ≤ 70368744177664) (h : Wr w B out) :
    Calls Try.prog 33 #[.pointer (some ⟨B, 0, none⟩), val ⟨3, y, z, n, x, l⟩ c ia ic la lc] w fun e w' => e = .returned (.tuple #[]) ∧ Wr w' B (out ++ valB ⟨3, y, z, n, x, l⟩ c) ∧ WF B w w' := by
  have HB : Hid (B < w.heap.size) := h.lt
  have hab : Below w.heap.size w (bx w ⟨3, y, z, n, x, l⟩ c ia ic la lc) := alloc_below w _
  have hbx := bx_block w ⟨3, y, z, n, x, l⟩ c ia ic la lc
  have HL : Hid (out.length + (valB ⟨3, y, z, n, x, l⟩ c).length + 100 ≤ 70368744177664) := hl
  have hW := h.later hab
  have hbn : w.heap.size ≠ B := by have := HB.out; omega
  have hwf0 : WF B w (bx w ⟨3, y, z, n, x, l⟩ c ia ic la lc) := WF.of_below hab
  have hn := hv.ok.num
  simp only at hn
  clear hl
  obtain ⟨tn, htn⟩ : ∃ t, (n % 256).toNat = t := ⟨_, rfl⟩
  have HV : Hid (valB ⟨3, y, z, n, x, l⟩ c = [tn]) := by show _ = _; simp [valB, preB, htn]
  have hb := hok.kind
  have hb' : fitB n 8 = true := by simpa [kindB, bitsZ] using hb
  simp only [fitB, if_true, decide_eq_true_eq] at hb'
  have hc8 : IntKind.u8.wrap n = (tn : Int) := by
    rw [IntKind.wrap_u8]
    omega
  have hc8' : n % 256 = (tn : Int) := by omega
  have L := lay_any _ B out tn (by have := HL.out; omega) hW
  rw [← HV.out] at L
  clear htn hb
  go_enter Try.func33, Try.ntmps33
  go_wp2_with fail
  refine L.mono ?_
  rintro e W2 ⟨rfl, hW2, hf2⟩
  go_wp2_with fail
  go_end0
  exact ⟨rfl, hW2, hwf0.trans hf2⟩

set_option maxRecDepth 10000 in
set_option maxHeartbeats 2000000 in
theorem wvalue_4 (y z n : Int) (x : ByteArray) (l : List Int) (c : Fo) (w0 w : World) (B : Nat) (out : List Nat) (ia : Option Addr) (ic : Nat) (la : Option Addr) (lc : Nat) (hok : OkV ⟨4, y, z, n, x, l⟩ c) (hv : VIn w0 ⟨4, y, z, n, x, l⟩ c ia ic la lc) (hb0 : Below w0.heap.size w0 w) (hB : w0.heap.size ≤ B) (hl : out.length + (valB ⟨4, y, z, n, x, l⟩ c).length + 100 ≤ 70368744177664) (h : Wr w B out) :
    Calls Try.prog 33 #[.pointer (some ⟨B, 0, none⟩), val ⟨4, y, z, n, x, l⟩ c ia ic la lc] w fun e w' => e = .returned (.tuple #[]) ∧ Wr w' B (out ++ valB ⟨4, y, z, n, x, l⟩ c) ∧ WF B w w' := by
  have HB : Hid (B < w.heap.size) := h.lt
  have hab : Below w.heap.size w (bx w ⟨4, y, z, n, x, l⟩ c ia ic la lc) := alloc_below w _
  have hbx := bx_block w ⟨4, y, z, n, x, l⟩ c ia ic la lc
  have HL : Hid (out.length + (valB ⟨4, y, z, n, x, l⟩ c).length + 100 ≤ 70368744177664) := hl
  have hW := h.later hab
  have hbn : w.heap.size ≠ B := by have := HB.out; omega
  have hwf0 : WF B w (bx w ⟨4, y, z, n, x, l⟩ c ia ic la lc) := WF.of_below hab
  have hn := hv.ok.num
  simp only at hn
  clear hl
  have HV : Hid (valB ⟨4, y, z, n, x, l⟩ c = numB (zig n)) := by show _ = _; simp [valB, preB]
  have L := wsigned_any _ B out n hn (by have := HL.out; omega) hW
  rw [← HV.out] at L
  go_enter Try.func33, Try.ntmps33
  go_wp2_with fail
  refine L.mono ?_
  rintro e W2 ⟨rfl, hW2, hf2⟩
  go_wp2_with fail
  go_end0
  exact ⟨rfl, hW2, hwf0.trans hf2⟩

set_option maxRecDepth 10000 in
set_option maxHeartbeats 2000000 in
theorem wvalue_5 (y z n : Int) (x : ByteArray) (l : List Int) (c : Fo) (w0 w : World) (B : Nat) (out : List Nat) (ia : Option Addr) (ic : Nat) (la : Option Addr) (lc : Nat) (hok : OkV ⟨5, y, z, n, x, l⟩ c) (hv : VIn w0 ⟨5, y, z, n, x, l⟩ c ia ic la lc) (hb0 : Below w0.heap.size w0 w) (hB : w0.heap.size ≤ B) (hl : out.length + (valB ⟨5, y, z, n, x, l⟩ c).length + 100 ≤ 70368744177664) (h : Wr w B out) :
    Calls Try.prog 33 #[.pointer (some ⟨B, 0, none⟩), val ⟨5, y, z, n, x, l⟩ c ia ic la lc] w fun e w' => e = .returned (.tuple #[]) ∧ Wr w' B (out ++ valB ⟨5, y, z, n, x, l⟩ c) ∧ WF B w w' := by
  have HB : Hid (B < w.heap.size) := h.lt
  have hab : Below w.heap.size w (bx w ⟨5, y, z, n, x, l⟩ c ia ic la lc) := alloc_below w _
  have hbx := bx_block w ⟨5, y, z, n, x, l⟩ c ia ic la lc
  have HL : Hid (out.length + (valB ⟨5, y, z, n, x, l⟩ c).length + 100 ≤ 70368744177664) := hl
  have hW := h.later hab
  have hbn : w.heap.size ≠ B := by have := HB.out; omega
  have hwf0 : WF B w (bx w ⟨5, y, z, n, x, l⟩ c ia ic la lc) := WF.of_below hab
  have hn := hv.ok.num
  simp only at hn
  clear hl
  have HV : Hid (valB ⟨5, y, z, n, x, l⟩ c = numB (zig n)) := by show _ = _; simp [valB, preB]
  have L := wsigned_any _ B out n hn (by have := HL.out; omega) hW
  rw [← HV.out] at L
  go_enter Try.func33, Try.ntmps33
  go_wp2_with fail
  refine L.mono ?_
  rintro e W2 ⟨rfl, hW2, hf2⟩
  go_wp2_with fail
  go_end0
  exact ⟨rfl, hW2, hwf0.trans hf2⟩

set_option maxRecDepth 10000 in
set_option maxHeartbeats 2000000 in
theorem wvalue_6 (y z n : Int) (x : ByteArray) (l : List Int) (c : Fo) (w0 w : World) (B : Nat) (out : List Nat) (ia : Option Addr) (ic : Nat) (la : Option Addr) (lc : Nat) (hok : OkV ⟨6, y, z, n, x, l⟩ c) (hv : VIn w0 ⟨6, y, z, n, x, l⟩ c ia ic la lc) (hb0 : Below w0.heap.size w0 w) (hB : w0.heap.size ≤ B) (hl : out.length + (valB ⟨6, y, z, n, x, l⟩ c).length + 100 ≤ 70368744177664) (h : Wr w B out) :
    Calls Try.prog 33 #[.pointer (some ⟨B, 0, none⟩), val ⟨6, y, z, n, x, l⟩ c ia ic la lc] w fun e w' => e = .returned (.tuple #[]) ∧ Wr w' B (out ++ valB ⟨6, y, z, n, x, l⟩ c) ∧ WF B w w' := by
  have HB : Hid (B < w.heap.size) := h.lt
  have hab : Below w.heap.size w (bx w ⟨6, y, z, n, x, l⟩ c ia ic la lc) := alloc_below w _
  have hbx := bx_block w ⟨6, y, z, n, x, l⟩ c ia ic la lc
  have HL : Hid (out.length + (valB ⟨6, y, z, n, x, l⟩ c).length + 100 ≤ 70368744177664) := hl
  have hW := h.later hab
  have hbn : w.heap.size ≠ B := by have := HB.out; omega
  have hwf0 : WF B w (bx w ⟨6, y, z, n, x, l⟩ c ia ic la lc) := WF.of_below hab
  have hn := hv.ok.num
  simp only at hn
  clear hl
  have HV : Hid (valB ⟨6, y, z, n, x, l⟩ c = numB (zig n)) := by show _ = _; simp [valB, preB]
  have L := wsigned_any _ B out n hn (by have := HL.out; omega) hW
  rw [← HV.out] at L
  go_enter Try.func33, Try.ntmps33
  go_wp2_with fail
  refine L.mono ?_
  rintro e W2 ⟨rfl, hW2, hf2⟩
  go_wp2_with fail
  go_end0
  exact ⟨rfl, hW2, hwf0.trans hf2⟩

set_option maxRecDepth 10000 in
set_option maxHeartbeats 2000000 in
theorem wvalue_7 (y z n : Int) (x : ByteArray) (l : List Int) (c : Fo) (w0 w : World) (B : Nat) (out : List Nat) (ia : Option Addr) (ic : Nat) (la : Option Addr) (lc : Nat) (hok : OkV ⟨7, y, z, n, x, l⟩ c) (hv : VIn w0 ⟨7, y, z, n, x, l⟩ c ia ic la lc) (hb0 : Below w0.heap.size w0 w) (hB : w0.heap.size ≤ B) (hl : out.length + (valB ⟨7, y, z, n, x, l⟩ c).length + 100 ≤ 70368744177664) (h : Wr w B out) :
    Calls Try.prog 33 #[.pointer (some ⟨B, 0, none⟩), val ⟨7, y, z, n, x, l⟩ c ia ic la lc] w fun e w' => e = .returned (.tuple #[]) ∧ Wr w' B (out ++ valB ⟨7, y, z, n, x, l⟩ c) ∧ WF B w w' := by
  have HB : Hid (B < w.heap.size) := h.lt
  have hab : Below w.heap.size w (bx w ⟨7, y, z, n, x, l⟩ c ia ic la lc) := alloc_below w _
  have hbx := bx_block w ⟨7, y, z, n, x, l⟩ c ia ic la lc
  have HL : Hid (out.length + (valB ⟨7, y, z, n, x, l⟩ c).length + 100 ≤ 70368744177664) := hl
  have hW := h.later hab
  have hbn : w.heap.size ≠ B := by have := HB.out; omega
  have hwf0 : WF B w (bx w ⟨7, y, z, n, x, l⟩ c ia ic la lc) := WF.of_below hab
  have hn := hv.ok.num
  simp only at hn
  clear hl
  obtain ⟨tn, htn⟩ : ∃ t, (n % 18446744073709551616).toNat = t := ⟨_, rfl⟩
  have HV : Hid (valB ⟨7, y, z, n, x, l⟩ c = leB 8 tn) := by show _ = _; simp [valB, preB, htn]
  obtain ⟨n0, n1⟩ := hn
  have hc : IntKind.u64.wrap n = (tn : Int) := by
    rw [IntKind.wrap_u64]
    omega
  have L := wdouble_any _ B out tn (by omega) (by have := HL.out; omega) hW
  rw [← HV.out] at L
  by_cases hs : 0 ≤ n
  · have hs2 : n = (tn : Int) := by omega
    subst hs2
    clear htn hc
    go_enter Try.func33, Try.ntmps33
    go_wp2_with fail
    refine L.mono ?_
    rintro e W2 ⟨rfl, hW2, hf2⟩
    go_wp2_with fail
    go_end0
    exact ⟨rfl, hW2, hwf0.trans hf2⟩
  · clear htn
    go_enter Try.func33, Try.ntmps33
    go_wp2_with fail
    refine L.mono ?_
    rintro e W2 ⟨rfl, hW2, hf2⟩
    go_wp2_with fail
    go_end0
    exact ⟨rfl, hW2, hwf0.trans hf2⟩

set_option maxRecDepth 10000 in
set_option maxHeartbeats 2000000 in
theorem wvalue_9 (y z n : Int) (x : ByteArray) (l : List Int) (c : Fo) (ih : ∀ x ∈ elems c, WVC x.1 x.2) (w0 w : World) (B : Nat) (out : List Nat) (ia : Option Addr) (ic : Nat) (la : Option Addr) (lc : Nat) (hok : OkV ⟨9, y, z, n, x, l⟩ c) (hv : VIn w0 ⟨9, y, z, n, x, l⟩ c ia ic la lc) (hb0 : Below w0.heap.size w0 w) (hB : w0.heap.size ≤ B) (hl : out.length + (valB ⟨9, y, z, n, x, l⟩ c).length + 100 ≤ 70368744177664) (h : Wr w B out) :
    Calls Try.prog 33 #[.pointer (some ⟨B, 0, none⟩), val ⟨9, y, z, n, x, l⟩ c ia ic la lc] w fun e w' => e = .returned (.tuple #[]) ∧ Wr w' B (out ++ valB ⟨9, y, z, n, x, l⟩ c) ∧ WF B w w' := by
  have HB : Hid (B < w.heap.size) := h.lt
  have hab : Below w.heap.size w (bx w ⟨9, y, z, n, x, l⟩ c ia ic la lc) := alloc_below w _
  have hbx := bx_block w ⟨9, y, z, n, x, l⟩ c ia ic la lc
  have HL : Hid (out.length + (valB ⟨9, y, z, n, x, l⟩ c).length + 100 ≤ 70368744177664) := hl
  have hW := h.later hab
  have hbn : w.heap.size ≠ B := by have := HB.out; omega
  have hwf0 : WF B w (bx w ⟨9, y, z, n, x, l⟩ c ia ic la lc) := WF.of_below hab
  have hn := hv.ok.num
  simp only at hn
  clear hl
  have L := wlist_any ⟨9, y, z, n, x, l⟩ c ih w0 _ B out ia ic la lc rfl hok hv (hb0.trans (hab.mono hb0.size)) hB HL.out hW
  go_enter Try.func33, Try.ntmps33
  go_wp2_with fail
  refine L.mono ?_
  rintro e W2 ⟨rfl, hW2, hf2⟩
  go_wp2_with fail
  go_end0
  exact ⟨rfl, hW2, hwf0.trans hf2⟩

set_option maxRecDepth 10000 in
set_option maxHeartbeats 2000000 in
theorem wvalue_11 (y z n : Int) (x : ByteArray) (l : List Int) (c : Fo) (ih : ∀ x ∈ elems c, WVC x.1 x.2) (w0 w : World) (B : Nat) (out : List Nat) (ia : Option Addr) (ic : Nat) (la : Option Addr) (lc : Nat) (hok : OkV ⟨11, y, z, n, x, l⟩ c) (hv : VIn w0 ⟨11, y, z, n, x, l⟩ c ia ic la lc) (hb0 : Below w0.heap.size w0 w) (hB : w0.heap.size ≤ B) (hl : out.length + (valB ⟨11, y, z, n, x, l⟩ c).length + 100 ≤ 70368744177664) (h : Wr w B out) :
    Calls Try.prog 33 #[.pointer (some ⟨B, 0, none⟩), val ⟨11, y, z, n, x, l⟩ c ia ic la lc] w fun e w' => e = .returned (.tuple #[]) ∧ Wr w' B (out ++ valB ⟨11, y, z, n, x, l⟩ c) ∧ WF B w w' := by
  have HB : Hid (B < w.heap.size) := h.lt
  have hab : Below w.heap.size w (bx w ⟨11, y, z, n, x, l⟩ c ia ic la lc) := alloc_below w _
  have hbx := bx_block w ⟨11, y, z, n, x, l⟩ c ia ic la lc
  have HL : Hid (out.length + (valB ⟨11, y, z, n, x, l⟩ c).length + 100 ≤ 70368744177664) := hl
  have hW := h.later hab
  have hbn : w.heap.size ≠ B := by have := HB.out; omega
  have hwf0 : WF B w (bx w ⟨11, y, z, n, x, l⟩ c ia ic la lc) := WF.of_below hab
  have hn := hv.ok.num
  simp only at hn
  clear hl
  have L := wdict_any ⟨11, y, z, n, x, l⟩ c ih w0 _ B out ia ic la lc rfl hok hv (hb0.trans (hab.mono hb0.size)) hB HL.out hW
  go_enter Try.func33, Try.ntmps33
  go_wp2_with fail
  refine L.mono ?_
  rintro e W2 ⟨rfl, hW2, hf2⟩
  go_wp2_with fail
  go_end0
  exact ⟨rfl, hW2, hwf0.trans hf2⟩

set_option maxRecDepth 10000 in
set_option maxHeartbeats 2000000 in
theorem wvalue_12 (y z n : Int) (x : ByteArray) (l : List Int) (c : Fo) (ih : ∀ x ∈ elems c, WVC x.1 x.2) (w0 w : World) (B : Nat) (out : List Nat) (ia : Option Addr) (ic : Nat) (la : Option Addr) (lc : Nat) (hok : OkV ⟨12, y, z, n, x, l⟩ c) (hv : VIn w0 ⟨12, y, z, n, x, l⟩ c ia ic la lc) (hb0 : Below w0.heap.size w0 w) (hB : w0.heap.size ≤ B) (hl : out.length + (valB ⟨12, y, z, n, x, l⟩ c).length + 100 ≤ 70368744177664) (h : Wr w B out) :
    Calls Try.prog 33 #[.pointer (some ⟨B, 0, none⟩), val ⟨12, y, z, n, x, l⟩ c ia ic la lc] w fun e w' => e = .returned (.tuple #[]) ∧ Wr w' B (out ++ valB ⟨12, y, z, n, x, l⟩ c) ∧ WF B w w' := by
  have HB : Hid (B < w.heap.size) := h.lt
  have hab : Below w.heap.size w (bx w ⟨12, y, z, n, x, l⟩ c ia ic la lc) := alloc_below w _
  have hbx := bx_block w ⟨12, y, z, n, x, l⟩ c ia ic la lc
  have HL : Hid (out.length + (valB ⟨12, y, z, n, x, l⟩ c).length + 100 ≤ 70368744177664) := hl
  have hW := h.later hab
  have hbn : w.heap.size ≠ B := by have := HB.out; omega
  have hwf0 : WF B w (bx w ⟨12, y, z, n, x, l⟩ c ia ic la lc) := WF.of_below hab
  have hn := hv.ok.num
  simp only at hn
  clear hl
  have L := wstructure_any ⟨12, y, z, n, x, l⟩ c ih w0 _ B out ia ic la lc rfl hok hv (hb0.trans (hab.mono hb0.size)) hB HL.out hW
  go_enter Try.func33, Try.ntmps33
  go_wp2_with fail
  refine L.mono ?_
  rintro e W2 ⟨rfl, hW2, hf2⟩
  go_wp2_with fail
  go_end0
  exact ⟨rfl, hW2, hwf0.trans hf2⟩

end Go.Proofs.Ytikoddlidhefpaa

/-
  The writer's texts: append of a string in a statement that draws its order.
-/
namespace Go.Proofs.Ytikoddlidhefpaa
set_option linter.unusedVariables false
set_option linter.unusedSimpArgs false
open Go.ChangeShapes Go.WideShapes Go.ChangeAt Go.RowKit Go.Deep

/-- append of a string to a row of the call's own, as one step of a region that draws -/
theorem step_append_str {P : Program} {ops : Array Oper} {o : Oper} {a : Act} {w : World} {K : Act → World → Prop} {Q : Exit → Act → World → Prop} {E : Prop}
    (hg : o.guard = none) (s x : Operand) (t u : TypeId) (hop : o.op = Op.call { callee := Callee.builtin Builtin.append, args := #[s, x], argTypes := #[t, u] })
    (base : Nat) (e : TypeId) (i : TypeInfo) (h1 : P.underlying t = some (.slice e)) (hu : P.underlying u = some .string) (h2 : P.info? e = some i) (hz : i.zero = some (.int .u8 0)) (h4 : i.size = 1) (h5 : i.bytes = 1)
    (v : Value) (n : Nat) (xs : List Value) (hs : a.eval s = v) (hown : w.ownsRow base e 1 v n xs) (str : ByteArray) (hx : a.eval x = .string str)
    (h63 : n + str.size ≤ maxLen) (hbytes : n + str.size ≤ 140737488355328) (hbase : base ≤ w.heap.size)
    (hK : ∀ v' w', w'.ownsRow base e 1 v' (n + str.size) (xs ++ Lib.strCells str) → w.grownBy w' v.ownBlock → K (a.put o.dst v') w') :
    if Region.wanted o (yielded ops a.tmps) = true then Oper.wp P o a w K Q else E := by
  have hw : Region.wanted o (yielded ops a.tmps) = true := by simp [Region.wanted, hg]
  rw [if_pos hw]
  obtain ⟨v', w', hrun, k1, k2, _⟩ := Lib.run_append_own_string (P := P) w base t u o.type e i h1 hu h2 hz h4 h5 v n xs hown str h63 hbytes hbase
  unfold Oper.wp
  simp [execOp, hop, resolve, invoke, builtin, hs, hx, hrun, Result.andThen]
  exact hK v' w' k1 k2

theorem strCells_c8 (s : ByteArray) : Lib.strCells s = c8 (s.data.toList.map UInt8.toNat) := by
  simp [Lib.strCells, c8]
theorem text_len (s : ByteArray) : (s.data.toList.map UInt8.toNat).length = s.size := by
  rw [List.length_map, Array.length_toList]
  rfl

set_option maxRecDepth 10000 in
set_option maxHeartbeats 4000000 in
theorem wvalue_8 (y z n : Int) (x : ByteArray) (l : List Int) (c : Fo) (w0 w : World) (B : Nat) (out : List Nat) (ia : Option Addr) (ic : Nat) (la : Option Addr) (lc : Nat) (hok : OkV ⟨8, y, z, n, x, l⟩ c) (hv : VIn w0 ⟨8, y, z, n, x, l⟩ c ia ic la lc) (hb0 : Below w0.heap.size w0 w) (hB : w0.heap.size ≤ B) (hl : out.length + (valB ⟨8, y, z, n, x, l⟩ c).length + 100 ≤ 70368744177664) (h : Wr w B out) :
    Calls Try.prog 33 #[.pointer (some ⟨B, 0, none⟩), val ⟨8, y, z, n, x, l⟩ c ia ic la lc] w fun e w' => e = .returned (.tuple #[]) ∧ Wr w' B (out ++ valB ⟨8, y, z, n, x, l⟩ c) ∧ WF B w w' := by
  have HB : Hid (B < w.heap.size) := h.lt
  have hab : Below w.heap.size w (bx w ⟨8, y, z, n, x, l⟩ c ia ic la lc) := alloc_below w _
  have hbx := bx_block w ⟨8, y, z, n, x, l⟩ c ia ic la lc
  have HL : Hid (out.length + (valB ⟨8, y, z, n, x, l⟩ c).length + 100 ≤ 70368744177664) := hl
  have hW := h.later hab
  have hbn : w.heap.size ≠ B := by have := HB.out; omega
  have hwf0 : WF B w (bx w ⟨8, y, z, n, x, l⟩ c ia ic la lc) := WF.of_below hab
  have hx0 := hv.ok.text
  simp only at hx0
  have hx' : (x.size : Int) ≤ 140737488355328 := by omega
  have HV : Hid (valB ⟨8, y, z, n, x, l⟩ c = numB x.size ++ x.data.toList.map UInt8.toNat) := by show _ = _; simp [valB, preB]
  have hlv := congrArg List.length HV.out
  simp only [List.length_append, text_len] at hlv
  have N := number_any _ B out x.size (num_bound hx0) (by have := HL.out; omega) hW
  obtain ⟨i0, hi, hz0, hz1, hz2⟩ := info_parts infoU8
  clear hl hx0
  go_enter Try.func33, Try.ntmps33
  go_wp2_with fail
  refine N.mono ?_
  rintro e W1 ⟨rfl, hW1, hf1⟩
  have hbx1 := hf1.box hbx hbn tTh_ne
  have y4 : W1.cell? ⟨w.heap.size, 4, none⟩ = some (.string x) := cell_of_block hbx1 rfl
  have hlt1 := hW1.lt
  obtain ⟨v, hv1, hown⟩ := hW1
  have c0 : W1.cell? ⟨B, 0, none⟩ = some v := cell_of_block hv1 rfl
  have f0 : W1.frozen? ⟨B, 0, none⟩ = false := frozen_of_block hv1
  have HBB : Hid ((out ++ numB x.size).length + x.size ≤ maxLen ∧ (out ++ numB x.size).length + x.size ≤ 140737488355328 ∧ B + 1 ≤ W1.drew.heap.size) := by
    have := HL.out
    simp only [List.length_append]
    refine ⟨by unfold maxLen; omega, by omega, hlt1⟩
  have HV1 : Hid (W1.heap[B]? = some (.cells #[v] 57 (0, 0))) := hv1
  have HO1 : Hid (W1.ownsRow (B + 1) 5 1 v (out ++ numB x.size).length (c8 (out ++ numB x.size))) := hown
  clear N hv1 hown hlv
  go_wp2_with fail
  go_region_law (refine step_append_str rfl (.tmp 46) (.tmp 48) 37 9 rfl (B + 1) 5 i0 Try.underlying37 Try.underlying9 hi hz0 hz1 hz2 v _ _ rfl HO1.out x rfl HBB.out.1 HBB.out.2.1 HBB.out.2.2 ?_; intro v1 W2 hown1 hg1; rw [strCells_c8] at hown1; have HS : Hid _ := wr_store (news := x.data.toList.map UInt8.toNat) HV1.out HO1.out (by rw [text_len]; exact hown1) ((Below.refl _ W1).drew) hg1; have KB := keep_box HV1.out HO1.out ((Below.refl _ W1).drew) hg1; obtain ⟨c1, f1⟩ := KB; obtain ⟨ad1, cp1, rfl⟩ := own_sl hown1; clear hown1 hg1 c0 f0)
  all_goals (
    go_wp2_with fail
    go_end0
    have HS' := HS.out
    rw [List.append_assoc, ← HV.out] at HS'
    simp only [List.length_append] at HS'
    exact ⟨rfl, HS'.1, hwf0.trans (hf1.trans HS'.2)⟩)

theorem wvalue_step (p : Pay) (c : Fo) (ih : ∀ x ∈ elems c, WVC x.1 x.2) : WVC p c := by
  intro w0 w B out ia ic la lc hok hv hb0 hB hl h
  have hk := hok.known
  rw [known_true] at hk
  obtain ⟨k, y, z, n, x, l⟩ := p
  simp only at hk
  by_cases h1 : k = 1
  · subst h1; exact wvalue_1 y z n x l c w0 w B out ia ic la lc hok hv hb0 hB hl h
  by_cases h3 : k = 3
  · subst h3; exact wvalue_3 y z n x l c w0 w B out ia ic la lc hok hv hb0 hB hl h
  by_cases h4 : k = 4
  · subst h4; exact wvalue_4 y z n x l c w0 w B out ia ic la lc hok hv hb0 hB hl h
  by_cases h5 : k = 5
  · subst h5; exact wvalue_5 y z n x l c w0 w B out ia ic la lc hok hv hb0 hB hl h
  by_cases h6 : k = 6
  · subst h6; exact wvalue_6 y z n x l c w0 w B out ia ic la lc hok hv hb0 hB hl h
  by_cases h7 : k = 7
  · subst h7; exact wvalue_7 y z n x l c w0 w B out ia ic la lc hok hv hb0 hB hl h
  by_cases h8 : k = 8
  · subst h8; exact wvalue_8 y z n x l c w0 w B out ia ic la lc hok hv hb0 hB hl h
  by_cases h9 : k = 9
  · subst h9; exact wvalue_9 y z n x l c ih w0 w B out ia ic la lc hok hv hb0 hB hl h
  by_cases h11 : k = 11
  · subst h11; exact wvalue_11 y z n x l c ih w0 w B out ia ic la lc hok hv hb0 hB hl h
  have h12 : k = 12 := by omega
  subst h12
  exact wvalue_12 y z n x l c ih w0 w B out ia ic la lc hok hv hb0 hB hl h
theorem wvalue_any (p : Pay) (c : Fo) : WVC p c := every_value wvalue_step p c

set_option maxRecDepth 10000 in
set_option maxHeartbeats 1000000 in
theorem write_no (p : Pay) (c : Fo) (w : World) (ia : Option Addr) (ic : Nat) (la : Option Addr) (lc : Nat) (hv : VIn w p c ia ic la lc) (hno : (decide (p.kind = 12) && mayV p c 32) = false) :
    Calls Try.prog 19 #[val p c ia ic la lc] w fun e w' => e = .returned (.tuple #[.slice none 0 0, .int .i64 2]) ∧ Below w.heap.size w w' := by
  have M := isStructure_any p c (bx w p c ia ic la lc) ia ic la lc (hv.later (alloc_below _ _))
  have hb0 : Below w.heap.size w (bx w p c ia ic la lc) := alloc_below _ _
  rw [hno] at M
  clear hno
  go_enter Try.func19, Try.ntmps19
  go_wp2_with fail
  refine M.mono ?_
  rintro e wx ⟨rfl, hwx⟩
  have hb := hb0.trans (hwx.mono hb0.size)
  go_wp2_with fail
  go_ret2
  exact ⟨rfl, hb⟩

set_option maxRecDepth 10000 in
set_option maxHeartbeats 1000000 in
theorem write_yes (p : Pay) (c : Fo) (w : World) (ia : Option Addr) (ic : Nat) (la : Option Addr) (lc : Nat) (hv : VIn w p c ia ic la lc) (hyes : (decide (p.kind = 12) && mayV p c 32) = true) (hl : (valB p c).length + 100 ≤ 70368744177664) :
    Calls Try.prog 19 #[val p c ia ic la lc] w fun e w' => ∃ v, e = .returned (.tuple #[v, .int .i64 0]) ∧ w'.ownsRow w.heap.size 5 1 v (valB p c).length (c8 (valB p c)) ∧ Below w.heap.size w w' := by
  have M := isStructure_any p c (bx w p c ia ic la lc) ia ic la lc (hv.later (alloc_below _ _))
  have hb0 : Below w.heap.size w (bx w p c ia ic la lc) := alloc_below _ _
  have HOK : Hid (OkV p c) := by
    simp only [Bool.and_eq_true] at hyes
    exact ⟨32, hyes.2⟩
  rw [hyes] at M
  clear hyes
  go_enter Try.func19, Try.ntmps19
  go_wp2_with fail
  refine M.mono ?_
  rintro e wx ⟨rfl, hwx⟩
  rw [bx_size] at hwx
  have hb := box_below hwx
  obtain ⟨y0, y1, y2, y3, y4, y5, y6⟩ := bx_cells hwx
  have hw1 : w.heap.size < wx.heap.size := box_size hwx
  have hab := alloc_below wx (.cells #[.slice none 0 0] 57)
  have hW : Wr (wx.alloc (.cells #[.slice none 0 0] 57)) wx.heap.size [] := ⟨.slice none 0 0, heap_new _ _, rfl, .inl ⟨rfl, rfl⟩⟩
  have V := wvalue_any p c w _ wx.heap.size [] ia ic la lc HOK.out hv (hb.trans (hab.mono hb.size)) (Nat.le_of_lt hw1) (by simpa using hl) hW
  rw [List.nil_append] at V
  clear M hW
  go_wp2_with fail
  refine V.mono ?_
  rintro e W2 ⟨rfl, hW2, hf2⟩
  obtain ⟨v, hv2, hown⟩ := hW2
  have c0 : W2.cell? ⟨wx.heap.size, 0, none⟩ = some v := cell_of_block hv2 rfl
  have HO : Hid (W2.ownsRow w.heap.size 5 1 v (valB p c).length (c8 (valB p c))) := by
    refine ⟨hown.1, ?_⟩
    rcases hown.2 with h1 | ⟨g, cap, cur, h1, h2, h3⟩
    · exact .inl h1
    · exact .inr ⟨g, cap, cur, h1, by omega, h3⟩
  have hbf : Below w.heap.size w W2 := hb.trans (((hab.trans ((hf2.below (by simp)))).mono (Nat.le_of_lt hw1)))
  clear V hown
  obtain ⟨ad, cp, rfl⟩ := own_sl HO.out
  go_wp2_with fail
  go_ret2
  exact ⟨_, rfl, HO.out, hbf⟩
end Go.Proofs.Ytikoddlidhefpaa
