/-
  The writer's texts: append of a string in a statement that draws its order.
-/
import Derived.Test.YtikoddlidhefpaaWrF
namespace Go.Proofs.Ytikoddlidhefpaa
set_option linter.unusedVariables false
set_option linter.unusedSimpArgs false
open Go.ChangeShapes Go.WideShapes Go.ChangeAt Go.RowKit Go.Deep

/-- append of a string to a row of the call's own, as one step of a region that draws -/
theorem step_append_str {P : Program} {ops : Array Oper} {o : Oper} {a : Act} {w : World} {K : Act → World → Prop} {Q : Exit → Act → World → Prop} {E : Prop}
    (hg : o.guard = none) (s x : Operand) (t u : TypeId) (hop : o.op = Op.call { callee := Callee.builtin Builtin.append, args := #[s, x], argTypes := #[t, u] })
    (base : Nat) (e : TypeId) (i : TypeInfo) (h1 : P.underlying t = some (.slice e)) (hu : P.underlying u = some .string) (h2 : P.info? e = some i) (hz : i.zero = some (.int .u8 0)) (h4 : i.size = 1) (h5 : i.bytes = 1)
    (v : Value) (n : Nat) (xs : List Value) (hs : a.eval s = v) (hown : w.ownsRow base e 1 v n xs) (str : ByteArray) (hx : a.eval x = .string str)
    (h63 : n + str.size ≤ maxLen) (hbytes : n + str.size ≤ 140737488355328) (hbase : base ≤ w.heap.size)
    (hK : ∀ v' w', w'.ownsRow base e 1 v' (n + str.size) (xs ++ Lib.strCells str) → w.grownBy w' v.ownBlock → K (a.put o.dst v') w') :
    if Region.wanted o (yielded ops a.tmps) = true then Oper.wp P o a w K Q else E := by
  have hw : Region.wanted o (yielded ops a.tmps) = true := by simp [Region.wanted, hg]
  rw [if_pos hw]
  obtain ⟨v', w', hrun, k1, k2, _⟩ := Lib.run_append_own_string (P := P) w base t u o.type e i h1 hu h2 hz h4 h5 v n xs hown str h63 hbytes hbase
  unfold Oper.wp
  simp [execOp, hop, resolve, invoke, builtin, hs, hx, hrun, Result.andThen]
  exact hK v' w' k1 k2

theorem strCells_c8 (s : ByteArray) : Lib.strCells s = c8 (s.data.toList.map UInt8.toNat) := by
  simp [Lib.strCells, c8]
theorem text_len (s : ByteArray) : (s.data.toList.map UInt8.toNat).length = s.size := by
  rw [List.length_map, Array.length_toList]
  rfl

set_option maxRecDepth 10000 in
set_option maxHeartbeats 4000000 in
theorem wvalue_8 (y z n : Int) (x : ByteArray) (l : List Int) (c : Fo) (w0 w : World) (B : Nat) (out : List Nat) (ia : Option Addr) (ic : Nat) (la : Option Addr) (lc : Nat) (hok : OkV ⟨8, y, z, n, x, l⟩ c) (hv : VIn w0 ⟨8, y, z, n, x, l⟩ c ia ic la lc) (hb0 : Below w0.heap.size w0 w) (hB : w0.heap.size ≤ B) (hl : out.length + (valB ⟨8, y, z, n, x, l⟩ c).length + 100 ≤ 70368744177664) (h : Wr w B out) :
    Calls Try.prog 33 #[.pointer (some ⟨B, 0, none⟩), val ⟨8, y, z, n, x, l⟩ c ia ic la lc] w fun e w' => e = .returned (.tuple #[]) ∧ Wr w' B (out ++ valB ⟨8, y, z, n, x, l⟩ c) ∧ WF B w w' := by
  have HB : Hid (B < w.heap.size) := h.lt
  have hab : Below w.heap.size w (bx w ⟨8, y, z, n, x, l⟩ c ia ic la lc) := alloc_below w _
  have hbx := bx_block w ⟨8, y, z, n, x, l⟩ c ia ic la lc
  have HL : Hid (out.length + (valB ⟨8, y, z, n, x, l⟩ c).length + 100 ≤ 70368744177664) := hl
  have hW := h.later hab
  have hbn : w.heap.size ≠ B := by have := HB.out; omega
  have hwf0 : WF B w (bx w ⟨8, y, z, n, x, l⟩ c ia ic la lc) := WF.of_below hab
  have hx0 := hv.ok.text
  simp only at hx0
  have hx' : (x.size : Int) ≤ 140737488355328 := by omega
  have HV : Hid (valB ⟨8, y, z, n, x, l⟩ c = numB x.size ++ x.data.toList.map UInt8.toNat) := by show _ = _; simp [valB, preB]
  have hlv := congrArg List.length HV.out
  simp only [List.length_append, text_len] at hlv
  have N := number_any _ B out x.size (num_bound hx0) (by have := HL.out; omega) hW
  obtain ⟨i0, hi, hz0, hz1, hz2⟩ := info_parts infoU8
  clear hl hx0
  go_enter Try.func33, Try.ntmps33
  go_wp2_with fail
  refine N.mono ?_
  rintro e W1 ⟨rfl, hW1, hf1⟩
  have hbx1 := hf1.box hbx hbn tTh_ne
  have y4 : W1.cell? ⟨w.heap.size, 4, none⟩ = some (.string x) := cell_of_block hbx1 rfl
  have hlt1 := hW1.lt
  obtain ⟨v, hv1, hown⟩ := hW1
  have c0 : W1.cell? ⟨B, 0, none⟩ = some v := cell_of_block hv1 rfl
  have f0 : W1.frozen? ⟨B, 0, none⟩ = false := frozen_of_block hv1
  have HBB : Hid ((out ++ numB x.size).length + x.size ≤ maxLen ∧ (out ++ numB x.size).length + x.size ≤ 140737488355328 ∧ B + 1 ≤ W1.drew.heap.size) := by
    have := HL.out
    simp only [List.length_append]
    refine ⟨by unfold maxLen; omega, by omega, hlt1⟩
  have HV1 : Hid (W1.heap[B]? = some (.cells #[v] 57 (0, 0))) := hv1
  have HO1 : Hid (W1.ownsRow (B + 1) 5 1 v (out ++ numB x.size).length (c8 (out ++ numB x.size))) := hown
  clear N hv1 hown hlv
  go_wp2_with fail
  go_region_law (refine step_append_str rfl (.tmp 46) (.tmp 48) 37 9 rfl (B + 1) 5 i0 Try.underlying37 Try.underlying9 hi hz0 hz1 hz2 v _ _ rfl HO1.out x rfl HBB.out.1 HBB.out.2.1 HBB.out.2.2 ?_; intro v1 W2 hown1 hg1; rw [strCells_c8] at hown1; have HS : Hid _ := wr_store (news := x.data.toList.map UInt8.toNat) HV1.out HO1.out (by rw [text_len]; exact hown1) ((Below.refl _ W1).drew) hg1; have KB := keep_box HV1.out HO1.out ((Below.refl _ W1).drew) hg1; obtain ⟨c1, f1⟩ := KB; obtain ⟨ad1, cp1, rfl⟩ := own_sl hown1; clear hown1 hg1 c0 f0)
  all_goals (
    go_wp2_with fail
    go_end0
    have HS' := HS.out
    rw [List.append_assoc, ← HV.out] at HS'
    simp only [List.length_append] at HS'
    exact ⟨rfl, HS'.1, hwf0.trans (hf1.trans HS'.2)⟩)

theorem wvalue_step (p : Pay) (c : Fo) (ih : ∀ x ∈ elems c, WVC x.1 x.2) : WVC p c := by
  intro w0 w B out ia ic la lc hok hv hb0 hB hl h
  have hk := hok.known
  rw [known_true] at hk
  obtain ⟨k, y, z, n, x, l⟩ := p
  simp only at hk
  by_cases h1 : k = 1
  · subst h1; exact wvalue_1 y z n x l c w0 w B out ia ic la lc hok hv hb0 hB hl h
  by_cases h3 : k = 3
  · subst h3; exact wvalue_3 y z n x l c w0 w B out ia ic la lc hok hv hb0 hB hl h
  by_cases h4 : k = 4
  · subst h4; exact wvalue_4 y z n x l c w0 w B out ia ic la lc hok hv hb0 hB hl h
  by_cases h5 : k = 5
  · subst h5; exact wvalue_5 y z n x l c w0 w B out ia ic la lc hok hv hb0 hB hl h
  by_cases h6 : k = 6
  · subst h6; exact wvalue_6 y z n x l c w0 w B out ia ic la lc hok hv hb0 hB hl h
  by_cases h7 : k = 7
  · subst h7; exact wvalue_7 y z n x l c w0 w B out ia ic la lc hok hv hb0 hB hl h
  by_cases h8 : k = 8
  · subst h8; exact wvalue_8 y z n x l c w0 w B out ia ic la lc hok hv hb0 hB hl h
  by_cases h9 : k = 9
  · subst h9; exact wvalue_9 y z n x l c ih w0 w B out ia ic la lc hok hv hb0 hB hl h
  by_cases h11 : k = 11
  · subst h11; exact wvalue_11 y z n x l c ih w0 w B out ia ic la lc hok hv hb0 hB hl h
  have h12 : k = 12 := by omega
  subst h12
  exact wvalue_12 y z n x l c ih w0 w B out ia ic la lc hok hv hb0 hB hl h
theorem wvalue_any (p : Pay) (c : Fo) : WVC p c := every_value wvalue_step p c

set_option maxRecDepth 10000 in
set_option maxHeartbeats 1000000 in
theorem write_no (p : Pay) (c : Fo) (w : World) (ia : Option Addr) (ic : Nat) (la : Option Addr) (lc : Nat) (hv : VIn w p c ia ic la lc) (hno : (decide (p.kind = 12) && mayV p c 32) = false) :
    Calls Try.prog 19 #[val p c ia ic la lc] w fun e w' => e = .returned (.tuple #[.slice none 0 0, .int .i64 2]) ∧ Below w.heap.size w w' := by
  have M := isStructure_any p c (bx w p c ia ic la lc) ia ic la lc (hv.later (alloc_below _ _))
  have hb0 : Below w.heap.size w (bx w p c ia ic la lc) := alloc_below _ _
  rw [hno] at M
  clear hno
  go_enter Try.func19, Try.ntmps19
  go_wp2_with fail
  refine M.mono ?_
  rintro e wx ⟨rfl, hwx⟩
  have hb := hb0.trans (hwx.mono hb0.size)
  go_wp2_with fail
  go_ret2
  exact ⟨rfl, hb⟩

set_option maxRecDepth 10000 in
set_option maxHeartbeats 1000000 in
theorem write_yes (p : Pay) (c : Fo) (w : World) (ia : Option Addr) (ic : Nat) (la : Option Addr) (lc : Nat) (hv : VIn w p c ia ic la lc) (hyes : (decide (p.kind = 12) && mayV p c 32) = true) (hl : (valB p c).length + 100 ≤ 70368744177664) :
    Calls Try.prog 19 #[val p c ia ic la lc] w fun e w' => ∃ v, e = .returned (.tuple #[v, .int .i64 0]) ∧ w'.ownsRow w.heap.size 5 1 v (valB p c).length (c8 (valB p c)) ∧ Below w.heap.size w w' := by
  have M := isStructure_any p c (bx w p c ia ic la lc) ia ic la lc (hv.later (alloc_below _ _))
  have hb0 : Below w.heap.size w (bx w p c ia ic la lc) := alloc_below _ _
  have HOK : Hid (OkV p c) := by
    simp only [Bool.and_eq_true] at hyes
    exact ⟨32, hyes.2⟩
  rw [hyes] at M
  clear hyes
  go_enter Try.func19, Try.ntmps19
  go_wp2_with fail
  refine M.mono ?_
  rintro e wx ⟨rfl, hwx⟩
  rw [bx_size] at hwx
  have hb := box_below hwx
  obtain ⟨y0, y1, y2, y3, y4, y5, y6⟩ := bx_cells hwx
  have hw1 : w.heap.size < wx.heap.size := box_size hwx
  have hab := alloc_below wx (.cells #[.slice none 0 0] 57)
  have hW : Wr (wx.alloc (.cells #[.slice none 0 0] 57)) wx.heap.size [] := ⟨.slice none 0 0, heap_new _ _, rfl, .inl ⟨rfl, rfl⟩⟩
  have V := wvalue_any p c w _ wx.heap.size [] ia ic la lc HOK.out hv (hb.trans (hab.mono hb.size)) (Nat.le_of_lt hw1) (by simpa using hl) hW
  rw [List.nil_append] at V
  clear M hW
  go_wp2_with fail
  refine V.mono ?_
  rintro e W2 ⟨rfl, hW2, hf2⟩
  obtain ⟨v, hv2, hown⟩ := hW2
  have c0 : W2.cell? ⟨wx.heap.size, 0, none⟩ = some v := cell_of_block hv2 rfl
  have HO : Hid (W2.ownsRow w.heap.size 5 1 v (valB p c).length (c8 (valB p c))) := by
    refine ⟨hown.1, ?_⟩
    rcases hown.2 with h1 | ⟨g, cap, cur, h1, h2, h3⟩
    · exact .inl h1
    · exact .inr ⟨g, cap, cur, h1, by omega, h3⟩
  have hbf : Below w.heap.size w W2 := hb.trans (((hab.trans ((hf2.below (by simp)))).mono (Nat.le_of_lt hw1)))
  clear V hown
  obtain ⟨ad, cp, rfl⟩ := own_sl HO.out
  go_wp2_with fail
  go_ret2
  exact ⟨_, rfl, HO.out, hbf⟩
end Go.Proofs.Ytikoddlidhefpaa
