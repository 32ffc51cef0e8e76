/-
  The writer's structures and values, and Write.
-/
import Derived.Test.YtikoddlidhefpaaWrD
namespace Go.Proofs.Ytikoddlidhefpaa
set_option linter.unusedVariables false
open Go.ChangeShapes Go.WideShapes Go.ChangeAt Go.RowKit Go.Deep

set_option maxRecDepth 10000 in
set_option maxHeartbeats 4000000 in
theorem wstructure_any (p : Pay) (c : Fo) (ih : ∀ x ∈ elems c, WVC x.1 x.2) (w0 w : World) (B : Nat) (out : List Nat) (ia : Option Addr) (ic : Nat) (la : Option Addr) (lc : Nat) (hk : p.kind = 12) (hok : OkV p c) (hv : VIn w0 p c ia ic la lc) (hb0 : Below w0.heap.size w0 w) (hB : w0.heap.size ≤ B) (hl : out.length + (valB p c).length + 100 ≤ 70368744177664) (h : Wr w B out) :
    Calls Try.prog 59 #[.pointer (some ⟨B, 0, none⟩), val p c ia ic la lc] w fun e w' => e = .returned (.tuple #[]) ∧ Wr w' B (out ++ valB p c) ∧ WF B w w' := by
  have HB : Hid (B < w.heap.size) := h.lt
  have t3 := hv.len
  have t3' : (flen c : Int) ≤ 140737488355328 := by omega
  have hkb := hok.kind
  have hkb' : (decide (flen c = p.ids.length) && risingB p.ids 0) = true := by simpa [kindB, hk] using hkb
  simp only [Bool.and_eq_true, decide_eq_true_eq] at hkb'
  have HI : Hid (flen c = p.ids.length) := hkb'.1
  have HVB : Hid (valB p c = encF c true p.ids 0) := by show _ = _; simp [valB, preB, hk]
  have hab := alloc_below w (.cells #[.int .i64 p.kind, .int .i64 p.key, .int .i64 p.elem, .int .i64 p.num, .string p.text, .slice ia p.ids.length ic, .slice la (flen c) lc] 26)
  have hbx := bx_block w p c ia ic la lc
  have HL : Hid (out.length + (encF c true p.ids 0).length + 100 ≤ 70368744177664) := by have := hl; rwa [HVB.out] at this
  have hW := h.later hab
  have hbn : w.heap.size ≠ B := by have := HB.out; omega
  have hwf0 : WF B w (bx w p c ia ic la lc) := WF.of_below hab
  have HR : Hid (risingB p.ids 0 = true) := hkb'.2
  clear hl hkb hkb' hk
  go_enter Try.func59, Try.ntmps59
  go_wp2_with fail
  go_loopw [4, 10] (fun av iv wr => ∃ (i : Nat) (last : Int) (done : List Nat), i ≤ flen c ∧ iv = .int .i64 i ∧ av = .int .i64 last ∧ 0 ≤ last ∧ last ≤ 32767 ∧ Hid (risingB (p.ids.drop i) last = true) ∧ Hid (done ++ encF (fdrop c i) true (p.ids.drop i) last = encF c true p.ids 0) ∧ Hid (Wr wr B (out ++ done)) ∧ WF B (bx w p c ia ic la lc) wr) (fun _ iv _ => flen c - (intOf iv).toNat)
  case atStart => exact ⟨0, 0, [], Nat.zero_le _, rfl, rfl, by omega, by omega, HR.out, by cases c <;> rfl, by rw [List.append_nil]; exact hW, WF.refl _ _⟩
  case round =>
    obtain ⟨i, last, done, hi, rfl, rfl, l0, l1, HRi, HE, HW, hwf⟩ := hrel
    have hwf1 := hwf0.trans hwf
    have hold := WF.old hb0 hwf1 hB (Nat.le_of_lt HB.out)
    have hbx1 := hwf.box hbx hbn tTh_ne
    obtain ⟨y0, y1, y2, y3, y4, y5, y6⟩ := box7 hbx1
    by_cases hlt : i < flen c
    · have hlt' : (i : Int) < (flen c : Int) := by omega
      have hli : i < p.ids.length := by have := HI.out; omega
      have hli' : (i : Int) < (p.ids.length : Int) := by omega
      obtain ⟨q, d, b, o, ja, jc, na, nc, bt, ot, _, hm, ef, rfl, hbl, hv', k0, k1, k2, k3, k4, k5, k6⟩ := row_at hv.list hlt
      have d0 := cell_later hold k0; have d1 := cell_later hold k1; have d2 := cell_later hold k2; have d3 := cell_later hold k3; have d4 := cell_later hold k4; have d5 := cell_later hold k5; have d6 := cell_later hold k6
      obtain ⟨g, off, rfl, kid⟩ := ids_at hv.ids hli
      have did := cell_later hold kid
      have KID : Hid _ := kid
      clear k0 k1 k2 k3 k4 k5 k6 kid
      have hdr := drop_cons (i := i) hli
      have HRS : Hid (last < p.ids.getD i 0 ∧ p.ids.getD i 0 ≤ 32767 ∧ risingB (p.ids.drop (i + 1)) (p.ids.getD i 0) = true) := by
        have := HRi.out
        rw [hdr] at this
        simp only [risingB, Bool.and_eq_true, decide_eq_true_eq] at this
        exact ⟨this.1.1, this.1.2, this.2⟩
      have HE' : Hid ((done ++ (headB q (p.ids.getD i 0) last ++ (if q.kind = 1 then [] else valB q d))) ++ encF (fdrop c (i + 1)) true (p.ids.drop (i + 1)) (p.ids.getD i 0) = encF c true p.ids 0) := by
        show _ = _
        rw [← HE.out, ef, hdr, encF_fld]
        simp
      clear HE ef hdr HRi
      generalize p.ids.getD i 0 = id at *
      have id1 := HRS.out.1
      have id2 := HRS.out.2.1
      have hab2 := alloc_below wr (.cells #[.int .i64 q.kind, .int .i64 q.key, .int .i64 q.elem, .int .i64 q.num, .string q.text, .slice ja q.ids.length jc, .slice na (flen d) nc] 26)
      have K := fun W (hW' : Below wr.heap.size wr W) => wfield_any q d (ih _ hm) w0 W B (out ++ done) ja jc na nc last id l0 id1 id2 (hok.list _ hm) hv' (hold.trans (hW'.mono hold.size)) hB (by
        have h1 := HL.out
        have h2 := congrArg List.length HE'.out
        simp only [List.length_append] at h1 h2 ⊢
        omega) (HW.out.later hW')
      have b1 : b < wr.heap.size := block_lt_of_cell d0
      have b2 : g < wr.heap.size := block_lt_of_cell did
      have b3 : w.heap.size < wr.heap.size := block_lt_of_cell y5
      go_wp2_with fail
      go_region_with (go_at_call 76; refine (K _ hab2.drew).mono ?_; rintro e wz ⟨rfl, hwz, hfz⟩; have hwf2 := hwf.trans ((WF.of_below hab2.drew).trans hfz); obtain ⟨z0, z1, z2, z3, z4, z5, z6⟩ := box7 (hwf2.box hbx hbn tTh_ne); have did2 := cell_later (WF.old hb0 (hwf0.trans hwf2) hB (Nat.le_of_lt HB.out)) KID.out; clear y0 y1 y2 y3 y4 y5 y6 did hfz)
      all_goals (
        go_wp2_with fail
        go_roundw
        case rel => exact ⟨i + 1, id, _, by omega, by go_num, rfl, by omega, by omega, HRS.out.2.2, HE', by rw [← List.append_assoc]; exact hwz, hwf2⟩
        case measure => simp [intOf]; omega)
    · have hlt' : (flen c : Int) ≤ (i : Int) := by omega
      have HE' : Hid ((done ++ [0]) = encF c true p.ids 0) := by
        have := HE.out
        rw [show fdrop c i = .nil by rw [show i = flen c by omega]; exact fdrop_end c] at this
        exact this
      have L := lay_any wr B (out ++ done) 0 (by have h1 := HL.out; have h2 := congrArg List.length HE'.out; simp only [List.length_append, List.length_cons, List.length_nil] at h1 h2 ⊢; omega) HW.out
      rw [List.append_assoc, HE'.out, ← HVB.out] at L
      go_wp2_with fail
      refine L.mono ?_
      rintro e wz ⟨rfl, hwz, hfz⟩
      go_wp2_with fail
      go_end0
      exact ⟨rfl, hwz, hwf1.trans hfz⟩
end Go.Proofs.Ytikoddlidhefpaa
