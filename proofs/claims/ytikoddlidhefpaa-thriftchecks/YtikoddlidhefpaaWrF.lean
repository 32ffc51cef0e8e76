/-
  The writer's values, and Write.
-/
import Derived.Test.YtikoddlidhefpaaWrE
namespace Go.Proofs.Ytikoddlidhefpaa
set_option linter.unusedVariables false
set_option linter.unusedSimpArgs false
open Go.ChangeShapes Go.WideShapes Go.ChangeAt Go.RowKit Go.Deep

set_option maxRecDepth 10000 in
set_option maxHeartbeats 2000000 in
theorem wvalue_1 (y z n : Int) (x : ByteArray) (l : List Int) (c : Fo) (w0 w : World) (B : Nat) (out : List Nat) (ia : Option Addr) (ic : Nat) (la : Option Addr) (lc : Nat) (hok : OkV ⟨1, y, z, n, x, l⟩ c) (hv : VIn w0 ⟨1, y, z, n, x, l⟩ c ia ic la lc) (hb0 : Below w0.heap.size w0 w) (hB : w0.heap.size ≤ B) (hl : out.length + (valB ⟨1, y, z, n, x, l⟩ c).length + 100 ≤ 70368744177664) (h : Wr w B out) :
    Calls Try.prog 33 #[.pointer (some ⟨B, 0, none⟩), val ⟨1, y, z, n, x, l⟩ c ia ic la lc] w fun e w' => e = .returned (.tuple #[]) ∧ Wr w' B (out ++ valB ⟨1, y, z, n, x, l⟩ c) ∧ WF B w w' := by
  have HB : Hid (B < w.heap.size) := h.lt
  have hab : Below w.heap.size w (bx w ⟨1, y, z, n, x, l⟩ c ia ic la lc) := alloc_below w _
  have hbx := bx_block w ⟨1, y, z, n, x, l⟩ c ia ic la lc
  have HL : Hid (out.length + (valB ⟨1, y, z, n, x, l⟩ c).length + 100 ≤ 70368744177664) := hl
  have hW := h.later hab
  have hbn : w.heap.size ≠ B := by have := HB.out; omega
  have hwf0 : WF B w (bx w ⟨1, y, z, n, x, l⟩ c ia ic la lc) := WF.of_below hab
  have hn := hv.ok.num
  simp only at hn
  clear hl
  have HV : Hid (valB ⟨1, y, z, n, x, l⟩ c = [truthN ⟨1, y, z, n, x, l⟩]) := by show _ = _; simp [valB, preB]
  have T := byteOfTruth_any ⟨1, y, z, n, x, l⟩ c ia ic la lc (bx w ⟨1, y, z, n, x, l⟩ c ia ic la lc)
  have hT : (if (⟨1, y, z, n, x, l⟩ : Pay).num = 1 then 1 else 2 : Int) = ((truthN ⟨1, y, z, n, x, l⟩ : Nat) : Int) := by unfold truthN; split <;> rfl
  rw [hT] at T
  obtain ⟨tn, htn⟩ : ∃ t, truthN ⟨1, y, z, n, x, l⟩ = t := ⟨_, rfl⟩
  rw [htn] at T HV
  clear hT htn
  go_enter Try.func33, Try.ntmps33
  go_wp2_with fail
  refine T.mono ?_
  rintro e W1 ⟨rfl, hW1⟩
  have L := lay_any W1 B out tn (by have := HL.out; omega) (hW.later hW1)
  rw [← HV.out] at L
  clear T
  go_wp2_with fail
  refine L.mono ?_
  rintro e W2 ⟨rfl, hW2, hf2⟩
  go_wp2_with fail
  go_end0
  exact ⟨rfl, hW2, hwf0.trans ((WF.of_below hW1).trans hf2)⟩

set_option maxRecDepth 10000 in
set_option maxHeartbeats 2000000 in
theorem wvalue_3 (y z n : Int) (x : ByteArray) (l : List Int) (c : Fo) (w0 w : World) (B : Nat) (out : List Nat) (ia : Option Addr) (ic : Nat) (la : Option Addr) (lc : Nat) (hok : OkV ⟨3, y, z, n, x, l⟩ c) (hv : VIn w0 ⟨3, y, z, n, x, l⟩ c ia ic la lc) (hb0 : Below w0.heap.size w0 w) (hB : w0.heap.size ≤ B) (hl : out.length + (valB ⟨3, y, z, n, x, l⟩ c).length + 100 ≤ 70368744177664) (h : Wr w B out) :
    Calls Try.prog 33 #[.pointer (some ⟨B, 0, none⟩), val ⟨3, y, z, n, x, l⟩ c ia ic la lc] w fun e w' => e = .returned (.tuple #[]) ∧ Wr w' B (out ++ valB ⟨3, y, z, n, x, l⟩ c) ∧ WF B w w' := by
  have HB : Hid (B < w.heap.size) := h.lt
  have hab : Below w.heap.size w (bx w ⟨3, y, z, n, x, l⟩ c ia ic la lc) := alloc_below w _
  have hbx := bx_block w ⟨3, y, z, n, x, l⟩ c ia ic la lc
  have HL : Hid (out.length + (valB ⟨3, y, z, n, x, l⟩ c).length + 100 ≤ 70368744177664) := hl
  have hW := h.later hab
  have hbn : w.heap.size ≠ B := by have := HB.out; omega
  have hwf0 : WF B w (bx w ⟨3, y, z, n, x, l⟩ c ia ic la lc) := WF.of_below hab
  have hn := hv.ok.num
  simp only at hn
  clear hl
  obtain ⟨tn, htn⟩ : ∃ t, (n % 256).toNat = t := ⟨_, rfl⟩
  have HV : Hid (valB ⟨3, y, z, n, x, l⟩ c = [tn]) := by show _ = _; simp [valB, preB, htn]
  have hb := hok.kind
  have hb' : fitB n 8 = true := by simpa [kindB, bitsZ] using hb
  simp only [fitB, if_true, decide_eq_true_eq] at hb'
  have hc8 : IntKind.u8.wrap n = (tn : Int) := by
    rw [IntKind.wrap_u8]
    omega
  have hc8' : n % 256 = (tn : Int) := by omega
  have L := lay_any _ B out tn (by have := HL.out; omega) hW
  rw [← HV.out] at L
  clear htn hb
  go_enter Try.func33, Try.ntmps33
  go_wp2_with fail
  refine L.mono ?_
  rintro e W2 ⟨rfl, hW2, hf2⟩
  go_wp2_with fail
  go_end0
  exact ⟨rfl, hW2, hwf0.trans hf2⟩

set_option maxRecDepth 10000 in
set_option maxHeartbeats 2000000 in
theorem wvalue_4 (y z n : Int) (x : ByteArray) (l : List Int) (c : Fo) (w0 w : World) (B : Nat) (out : List Nat) (ia : Option Addr) (ic : Nat) (la : Option Addr) (lc : Nat) (hok : OkV ⟨4, y, z, n, x, l⟩ c) (hv : VIn w0 ⟨4, y, z, n, x, l⟩ c ia ic la lc) (hb0 : Below w0.heap.size w0 w) (hB : w0.heap.size ≤ B) (hl : out.length + (valB ⟨4, y, z, n, x, l⟩ c).length + 100 ≤ 70368744177664) (h : Wr w B out) :
    Calls Try.prog 33 #[.pointer (some ⟨B, 0, none⟩), val ⟨4, y, z, n, x, l⟩ c ia ic la lc] w fun e w' => e = .returned (.tuple #[]) ∧ Wr w' B (out ++ valB ⟨4, y, z, n, x, l⟩ c) ∧ WF B w w' := by
  have HB : Hid (B < w.heap.size) := h.lt
  have hab : Below w.heap.size w (bx w ⟨4, y, z, n, x, l⟩ c ia ic la lc) := alloc_below w _
  have hbx := bx_block w ⟨4, y, z, n, x, l⟩ c ia ic la lc
  have HL : Hid (out.length + (valB ⟨4, y, z, n, x, l⟩ c).length + 100 ≤ 70368744177664) := hl
  have hW := h.later hab
  have hbn : w.heap.size ≠ B := by have := HB.out; omega
  have hwf0 : WF B w (bx w ⟨4, y, z, n, x, l⟩ c ia ic la lc) := WF.of_below hab
  have hn := hv.ok.num
  simp only at hn
  clear hl
  have HV : Hid (valB ⟨4, y, z, n, x, l⟩ c = numB (zig n)) := by show _ = _; simp [valB, preB]
  have L := wsigned_any _ B out n hn (by have := HL.out; omega) hW
  rw [← HV.out] at L
  go_enter Try.func33, Try.ntmps33
  go_wp2_with fail
  refine L.mono ?_
  rintro e W2 ⟨rfl, hW2, hf2⟩
  go_wp2_with fail
  go_end0
  exact ⟨rfl, hW2, hwf0.trans hf2⟩

set_option maxRecDepth 10000 in
set_option maxHeartbeats 2000000 in
theorem wvalue_5 (y z n : Int) (x : ByteArray) (l : List Int) (c : Fo) (w0 w : World) (B : Nat) (out : List Nat) (ia : Option Addr) (ic : Nat) (la : Option Addr) (lc : Nat) (hok : OkV ⟨5, y, z, n, x, l⟩ c) (hv : VIn w0 ⟨5, y, z, n, x, l⟩ c ia ic la lc) (hb0 : Below w0.heap.size w0 w) (hB : w0.heap.size ≤ B) (hl : out.length + (valB ⟨5, y, z, n, x, l⟩ c).length + 100 ≤ 70368744177664) (h : Wr w B out) :
    Calls Try.prog 33 #[.pointer (some ⟨B, 0, none⟩), val ⟨5, y, z, n, x, l⟩ c ia ic la lc] w fun e w' => e = .returned (.tuple #[]) ∧ Wr w' B (out ++ valB ⟨5, y, z, n, x, l⟩ c) ∧ WF B w w' := by
  have HB : Hid (B < w.heap.size) := h.lt
  have hab : Below w.heap.size w (bx w ⟨5, y, z, n, x, l⟩ c ia ic la lc) := alloc_below w _
  have hbx := bx_block w ⟨5, y, z, n, x, l⟩ c ia ic la lc
  have HL : Hid (out.length + (valB ⟨5, y, z, n, x, l⟩ c).length + 100 ≤ 70368744177664) := hl
  have hW := h.later hab
  have hbn : w.heap.size ≠ B := by have := HB.out; omega
  have hwf0 : WF B w (bx w ⟨5, y, z, n, x, l⟩ c ia ic la lc) := WF.of_below hab
  have hn := hv.ok.num
  simp only at hn
  clear hl
  have HV : Hid (valB ⟨5, y, z, n, x, l⟩ c = numB (zig n)) := by show _ = _; simp [valB, preB]
  have L := wsigned_any _ B out n hn (by have := HL.out; omega) hW
  rw [← HV.out] at L
  go_enter Try.func33, Try.ntmps33
  go_wp2_with fail
  refine L.mono ?_
  rintro e W2 ⟨rfl, hW2, hf2⟩
  go_wp2_with fail
  go_end0
  exact ⟨rfl, hW2, hwf0.trans hf2⟩

set_option maxRecDepth 10000 in
set_option maxHeartbeats 2000000 in
theorem wvalue_6 (y z n : Int) (x : ByteArray) (l : List Int) (c : Fo) (w0 w : World) (B : Nat) (out : List Nat) (ia : Option Addr) (ic : Nat) (la : Option Addr) (lc : Nat) (hok : OkV ⟨6, y, z, n, x, l⟩ c) (hv : VIn w0 ⟨6, y, z, n, x, l⟩ c ia ic la lc) (hb0 : Below w0.heap.size w0 w) (hB : w0.heap.size ≤ B) (hl : out.length + (valB ⟨6, y, z, n, x, l⟩ c).length + 100 ≤ 70368744177664) (h : Wr w B out) :
    Calls Try.prog 33 #[.pointer (some ⟨B, 0, none⟩), val ⟨6, y, z, n, x, l⟩ c ia ic la lc] w fun e w' => e = .returned (.tuple #[]) ∧ Wr w' B (out ++ valB ⟨6, y, z, n, x, l⟩ c) ∧ WF B w w' := by
  have HB : Hid (B < w.heap.size) := h.lt
  have hab : Below w.heap.size w (bx w ⟨6, y, z, n, x, l⟩ c ia ic la lc) := alloc_below w _
  have hbx := bx_block w ⟨6, y, z, n, x, l⟩ c ia ic la lc
  have HL : Hid (out.length + (valB ⟨6, y, z, n, x, l⟩ c).length + 100 ≤ 70368744177664) := hl
  have hW := h.later hab
  have hbn : w.heap.size ≠ B := by have := HB.out; omega
  have hwf0 : WF B w (bx w ⟨6, y, z, n, x, l⟩ c ia ic la lc) := WF.of_below hab
  have hn := hv.ok.num
  simp only at hn
  clear hl
  have HV : Hid (valB ⟨6, y, z, n, x, l⟩ c = numB (zig n)) := by show _ = _; simp [valB, preB]
  have L := wsigned_any _ B out n hn (by have := HL.out; omega) hW
  rw [← HV.out] at L
  go_enter Try.func33, Try.ntmps33
  go_wp2_with fail
  refine L.mono ?_
  rintro e W2 ⟨rfl, hW2, hf2⟩
  go_wp2_with fail
  go_end0
  exact ⟨rfl, hW2, hwf0.trans hf2⟩

set_option maxRecDepth 10000 in
set_option maxHeartbeats 2000000 in
theorem wvalue_7 (y z n : Int) (x : ByteArray) (l : List Int) (c : Fo) (w0 w : World) (B : Nat) (out : List Nat) (ia : Option Addr) (ic : Nat) (la : Option Addr) (lc : Nat) (hok : OkV ⟨7, y, z, n, x, l⟩ c) (hv : VIn w0 ⟨7, y, z, n, x, l⟩ c ia ic la lc) (hb0 : Below w0.heap.size w0 w) (hB : w0.heap.size ≤ B) (hl : out.length + (valB ⟨7, y, z, n, x, l⟩ c).length + 100 ≤ 70368744177664) (h : Wr w B out) :
    Calls Try.prog 33 #[.pointer (some ⟨B, 0, none⟩), val ⟨7, y, z, n, x, l⟩ c ia ic la lc] w fun e w' => e = .returned (.tuple #[]) ∧ Wr w' B (out ++ valB ⟨7, y, z, n, x, l⟩ c) ∧ WF B w w' := by
  have HB : Hid (B < w.heap.size) := h.lt
  have hab : Below w.heap.size w (bx w ⟨7, y, z, n, x, l⟩ c ia ic la lc) := alloc_below w _
  have hbx := bx_block w ⟨7, y, z, n, x, l⟩ c ia ic la lc
  have HL : Hid (out.length + (valB ⟨7, y, z, n, x, l⟩ c).length + 100 ≤ 70368744177664) := hl
  have hW := h.later hab
  have hbn : w.heap.size ≠ B := by have := HB.out; omega
  have hwf0 : WF B w (bx w ⟨7, y, z, n, x, l⟩ c ia ic la lc) := WF.of_below hab
  have hn := hv.ok.num
  simp only at hn
  clear hl
  obtain ⟨tn, htn⟩ : ∃ t, (n % 18446744073709551616).toNat = t := ⟨_, rfl⟩
  have HV : Hid (valB ⟨7, y, z, n, x, l⟩ c = leB 8 tn) := by show _ = _; simp [valB, preB, htn]
  obtain ⟨n0, n1⟩ := hn
  have hc : IntKind.u64.wrap n = (tn : Int) := by
    rw [IntKind.wrap_u64]
    omega
  have L := wdouble_any _ B out tn (by omega) (by have := HL.out; omega) hW
  rw [← HV.out] at L
  by_cases hs : 0 ≤ n
  · have hs2 : n = (tn : Int) := by omega
    subst hs2
    clear htn hc
    go_enter Try.func33, Try.ntmps33
    go_wp2_with fail
    refine L.mono ?_
    rintro e W2 ⟨rfl, hW2, hf2⟩
    go_wp2_with fail
    go_end0
    exact ⟨rfl, hW2, hwf0.trans hf2⟩
  · clear htn
    go_enter Try.func33, Try.ntmps33
    go_wp2_with fail
    refine L.mono ?_
    rintro e W2 ⟨rfl, hW2, hf2⟩
    go_wp2_with fail
    go_end0
    exact ⟨rfl, hW2, hwf0.trans hf2⟩

set_option maxRecDepth 10000 in
set_option maxHeartbeats 2000000 in
theorem wvalue_9 (y z n : Int) (x : ByteArray) (l : List Int) (c : Fo) (ih : ∀ x ∈ elems c, WVC x.1 x.2) (w0 w : World) (B : Nat) (out : List Nat) (ia : Option Addr) (ic : Nat) (la : Option Addr) (lc : Nat) (hok : OkV ⟨9, y, z, n, x, l⟩ c) (hv : VIn w0 ⟨9, y, z, n, x, l⟩ c ia ic la lc) (hb0 : Below w0.heap.size w0 w) (hB : w0.heap.size ≤ B) (hl : out.length + (valB ⟨9, y, z, n, x, l⟩ c).length + 100 ≤ 70368744177664) (h : Wr w B out) :
    Calls Try.prog 33 #[.pointer (some ⟨B, 0, none⟩), val ⟨9, y, z, n, x, l⟩ c ia ic la lc] w fun e w' => e = .returned (.tuple #[]) ∧ Wr w' B (out ++ valB ⟨9, y, z, n, x, l⟩ c) ∧ WF B w w' := by
  have HB : Hid (B < w.heap.size) := h.lt
  have hab : Below w.heap.size w (bx w ⟨9, y, z, n, x, l⟩ c ia ic la lc) := alloc_below w _
  have hbx := bx_block w ⟨9, y, z, n, x, l⟩ c ia ic la lc
  have HL : Hid (out.length + (valB ⟨9, y, z, n, x, l⟩ c).length + 100 ≤ 70368744177664) := hl
  have hW := h.later hab
  have hbn : w.heap.size ≠ B := by have := HB.out; omega
  have hwf0 : WF B w (bx w ⟨9, y, z, n, x, l⟩ c ia ic la lc) := WF.of_below hab
  have hn := hv.ok.num
  simp only at hn
  clear hl
  have L := wlist_any ⟨9, y, z, n, x, l⟩ c ih w0 _ B out ia ic la lc rfl hok hv (hb0.trans (hab.mono hb0.size)) hB HL.out hW
  go_enter Try.func33, Try.ntmps33
  go_wp2_with fail
  refine L.mono ?_
  rintro e W2 ⟨rfl, hW2, hf2⟩
  go_wp2_with fail
  go_end0
  exact ⟨rfl, hW2, hwf0.trans hf2⟩

set_option maxRecDepth 10000 in
set_option maxHeartbeats 2000000 in
theorem wvalue_11 (y z n : Int) (x : ByteArray) (l : List Int) (c : Fo) (ih : ∀ x ∈ elems c, WVC x.1 x.2) (w0 w : World) (B : Nat) (out : List Nat) (ia : Option Addr) (ic : Nat) (la : Option Addr) (lc : Nat) (hok : OkV ⟨11, y, z, n, x, l⟩ c) (hv : VIn w0 ⟨11, y, z, n, x, l⟩ c ia ic la lc) (hb0 : Below w0.heap.size w0 w) (hB : w0.heap.size ≤ B) (hl : out.length + (valB ⟨11, y, z, n, x, l⟩ c).length + 100 ≤ 70368744177664) (h : Wr w B out) :
    Calls Try.prog 33 #[.pointer (some ⟨B, 0, none⟩), val ⟨11, y, z, n, x, l⟩ c ia ic la lc] w fun e w' => e = .returned (.tuple #[]) ∧ Wr w' B (out ++ valB ⟨11, y, z, n, x, l⟩ c) ∧ WF B w w' := by
  have HB : Hid (B < w.heap.size) := h.lt
  have hab : Below w.heap.size w (bx w ⟨11, y, z, n, x, l⟩ c ia ic la lc) := alloc_below w _
  have hbx := bx_block w ⟨11, y, z, n, x, l⟩ c ia ic la lc
  have HL : Hid (out.length + (valB ⟨11, y, z, n, x, l⟩ c).length + 100 ≤ 70368744177664) := hl
  have hW := h.later hab
  have hbn : w.heap.size ≠ B := by have := HB.out; omega
  have hwf0 : WF B w (bx w ⟨11, y, z, n, x, l⟩ c ia ic la lc) := WF.of_below hab
  have hn := hv.ok.num
  simp only at hn
  clear hl
  have L := wdict_any ⟨11, y, z, n, x, l⟩ c ih w0 _ B out ia ic la lc rfl hok hv (hb0.trans (hab.mono hb0.size)) hB HL.out hW
  go_enter Try.func33, Try.ntmps33
  go_wp2_with fail
  refine L.mono ?_
  rintro e W2 ⟨rfl, hW2, hf2⟩
  go_wp2_with fail
  go_end0
  exact ⟨rfl, hW2, hwf0.trans hf2⟩

set_option maxRecDepth 10000 in
set_option maxHeartbeats 2000000 in
theorem wvalue_12 (y z n : Int) (x : ByteArray) (l : List Int) (c : Fo) (ih : ∀ x ∈ elems c, WVC x.1 x.2) (w0 w : World) (B : Nat) (out : List Nat) (ia : Option Addr) (ic : Nat) (la : Option Addr) (lc : Nat) (hok : OkV ⟨12, y, z, n, x, l⟩ c) (hv : VIn w0 ⟨12, y, z, n, x, l⟩ c ia ic la lc) (hb0 : Below w0.heap.size w0 w) (hB : w0.heap.size ≤ B) (hl : out.length + (valB ⟨12, y, z, n, x, l⟩ c).length + 100 ≤ 70368744177664) (h : Wr w B out) :
    Calls Try.prog 33 #[.pointer (some ⟨B, 0, none⟩), val ⟨12, y, z, n, x, l⟩ c ia ic la lc] w fun e w' => e = .returned (.tuple #[]) ∧ Wr w' B (out ++ valB ⟨12, y, z, n, x, l⟩ c) ∧ WF B w w' := by
  have HB : Hid (B < w.heap.size) := h.lt
  have hab : Below w.heap.size w (bx w ⟨12, y, z, n, x, l⟩ c ia ic la lc) := alloc_below w _
  have hbx := bx_block w ⟨12, y, z, n, x, l⟩ c ia ic la lc
  have HL : Hid (out.length + (valB ⟨12, y, z, n, x, l⟩ c).length + 100 ≤ 70368744177664) := hl
  have hW := h.later hab
  have hbn : w.heap.size ≠ B := by have := HB.out; omega
  have hwf0 : WF B w (bx w ⟨12, y, z, n, x, l⟩ c ia ic la lc) := WF.of_below hab
  have hn := hv.ok.num
  simp only at hn
  clear hl
  have L := wstructure_any ⟨12, y, z, n, x, l⟩ c ih w0 _ B out ia ic la lc rfl hok hv (hb0.trans (hab.mono hb0.size)) hB HL.out hW
  go_enter Try.func33, Try.ntmps33
  go_wp2_with fail
  refine L.mono ?_
  rintro e W2 ⟨rfl, hW2, hf2⟩
  go_wp2_with fail
  go_end0
  exact ⟨rfl, hW2, hwf0.trans hf2⟩

end Go.Proofs.Ytikoddlidhefpaa
