/-
  The parts: a number is read.
-/
import Derived.Test.YtfocmlajeflenaaPlO
import Derived.Test.YtfocmlajeflenaaBox
import Derived.Deep.RegionHeld3
namespace Go.Proofs.Ytfocmlajeflenaa
set_option linter.unusedVariables false
set_option linter.unusedSimpArgs false
open Go.ChangeShapes Go.WideShapes Go.ChangeAt Go.RowKit Go.Deep

set_option maxRecDepth 100000 in
set_option maxHeartbeats 2000000 in
theorem num3_1 (B B' : Nat) (w : World) (hB : w.cell? ⟨B, 0, none⟩ = some (.int .i64 4)) (hB' : w.cell? ⟨B', 0, none⟩ = some (.func (.func 46) #[] #[])) (a : Option Addr) (len cap p : Nat) (bs : List Nat) (h : Byt w a len cap bs) (hp : p ≤ len) (z : Int) :
    Calls Try.prog 67 #[.slice a len cap, .int .i64 p, .pointer (some ⟨B, 0, none⟩), .pointer (some ⟨B', 0, none⟩)] w fun e w' => ∃ d : Dat, e = .returned (.tuple #[dval d, .bool (front 1 z (bs.drop p)).isSome]) ∧ (∀ d', front 1 z (bs.drop p) = some d' → d = d') ∧ Below w.heap.size w w' := by
  have hx : (w.alloc (.cells #[.int .i64 0, .int .i64 0, .string { data := #[] }] 48 (0, 0))).heap[w.heap.size]? = some (.cells #[.int .i64 0, .int .i64 0, .string { data := #[] }] 48 (0, 0)) := heap_new w _
  have ab := alloc_below w (.cells #[.int .i64 0, .int .i64 0, .string { data := #[] }] 48 (0, 0))
  have hq := readl_nat (h.later ab) p 4 hp (by omega)
  have hf8 : ∀ x ∈ (bs.drop p).take 4, x < 256 := fun x hx => h.lt x (List.mem_of_mem_drop (List.mem_of_mem_take hx))
  have hlt := pk8_lt hf8
  have c0 := cell_later ab hB
  have c1 := cell_later ab hB'
  have HFR : Hid (front 1 z (bs.drop p) = if 4 ≤ (bs.drop p).length then some (mkN 1 (pk 8 ((bs.drop p).take 4))) else none) := rfl
  generalize bs.drop p = rs at *
  clear hf8 h
  go_enter Try.func67, Try.ntmps67
  go_wp2_with fail
  generalize w.alloc (.cells #[.int .i64 0, .int .i64 0, .string { data := #[] }] 48 (0, 0)) = W0 at *
  refine hq.mono ?_
  rintro e W1 ⟨x, er, rfl, hcase, hb1⟩
  have hb0 := ab.trans (hb1.mono ab.size)
  have d1 := cell_later hb1 c1
  have hx1 := below_at hb1 hx
  have hlx : x < 2 ^ (8 * 4) := by
    rcases hcase with ⟨h1, rfl, _⟩ | ⟨_, rfl, _⟩
    · rwa [List.length_take_of_le h1] at hlt
    · decide
  have CO := of_1 x hlx W1
  obtain ⟨dd, HD⟩ : ∃ d : Dat, Hid (mkN 1 x = d) := ⟨_, rfl⟩
  rw [HD.out] at CO
  obtain ⟨dk, dn, dt⟩ := dd
  simp only [dval] at CO
  clear c0 c1 hx hB hB' hlt hlx hq
  rcases hcase with ⟨hle, hxe, rfl⟩ | ⟨hnle, hxe, rfl⟩
  · have HFE : Hid (front 1 z rs = some ⟨dk, dn, dt⟩) := by show _ = _; rw [HFR.out, if_pos hle, ← hxe, HD.out]
    clear hxe hle
    go_wp2_with fail
    refine CO.mono ?_
    rintro e W2 ⟨rfl, hb2⟩
    have hx2 := below_at hb2 hx1
    obtain ⟨_, f0, f1, f2⟩ := blk3 hx2
    obtain ⟨X, HX, c0, c1, c2, hbX⟩ := box_dat hx2 ⟨dk, dn, dt⟩
    have hb3 := hb0.trans ((hb2.mono hb0.size).trans (hbX.mono (Nat.le_refl _)))
    clear hb2 hbX hx1 hx2 d1 CO
    go_wp2_with fail
    try rw [HX]
    exact bodyPost_ret (v := .tuple #[.agg #[.int .i64 dk, .int .i64 dn, .string dt], .bool true]) (by simp [results, Try.results67, go_sem, Try.underlying48, c0, c1, c2]) rfl ⟨⟨dk, dn, dt⟩, by rw [HFE.out]; try rfl, by rw [HFE.out]; intro d' hd; cases hd; try rfl, hb3⟩
  · have HFE : Hid (front 1 z rs = none) := by show _ = _; rw [HFR.out, if_neg hnle]
    clear hxe hnle
    go_wp2_with fail
    refine CO.mono ?_
    rintro e W2 ⟨rfl, hb2⟩
    have hx2 := below_at hb2 hx1
    obtain ⟨_, f0, f1, f2⟩ := blk3 hx2
    obtain ⟨X, HX, c0, c1, c2, hbX⟩ := box_dat hx2 ⟨dk, dn, dt⟩
    have hb3 := hb0.trans ((hb2.mono hb0.size).trans (hbX.mono (Nat.le_refl _)))
    clear hb2 hbX hx1 hx2 d1 CO
    go_wp2_with fail
    try rw [HX]
    exact bodyPost_ret (v := .tuple #[.agg #[.int .i64 dk, .int .i64 dn, .string dt], .bool false]) (by simp [results, Try.results67, go_sem, Try.underlying48, c0, c1, c2]) rfl ⟨⟨dk, dn, dt⟩, by rw [HFE.out]; try rfl, by rw [HFE.out]; intro d' hd; cases hd; try rfl, hb3⟩
set_option maxRecDepth 100000 in
set_option maxHeartbeats 2000000 in
theorem num3_2 (B B' : Nat) (w : World) (hB : w.cell? ⟨B, 0, none⟩ = some (.int .i64 8)) (hB' : w.cell? ⟨B', 0, none⟩ = some (.func (.func 47) #[] #[])) (a : Option Addr) (len cap p : Nat) (bs : List Nat) (h : Byt w a len cap bs) (hp : p ≤ len) (z : Int) :
    Calls Try.prog 67 #[.slice a len cap, .int .i64 p, .pointer (some ⟨B, 0, none⟩), .pointer (some ⟨B', 0, none⟩)] w fun e w' => ∃ d : Dat, e = .returned (.tuple #[dval d, .bool (front 2 z (bs.drop p)).isSome]) ∧ (∀ d', front 2 z (bs.drop p) = some d' → d = d') ∧ Below w.heap.size w w' := by
  have hx : (w.alloc (.cells #[.int .i64 0, .int .i64 0, .string { data := #[] }] 48 (0, 0))).heap[w.heap.size]? = some (.cells #[.int .i64 0, .int .i64 0, .string { data := #[] }] 48 (0, 0)) := heap_new w _
  have ab := alloc_below w (.cells #[.int .i64 0, .int .i64 0, .string { data := #[] }] 48 (0, 0))
  have hq := readl_nat (h.later ab) p 8 hp (by omega)
  have hf8 : ∀ x ∈ (bs.drop p).take 8, x < 256 := fun x hx => h.lt x (List.mem_of_mem_drop (List.mem_of_mem_take hx))
  have hlt := pk8_lt hf8
  have c0 := cell_later ab hB
  have c1 := cell_later ab hB'
  have HFR : Hid (front 2 z (bs.drop p) = if 8 ≤ (bs.drop p).length then some (mkN 2 (pk 8 ((bs.drop p).take 8))) else none) := rfl
  generalize bs.drop p = rs at *
  clear hf8 h
  go_enter Try.func67, Try.ntmps67
  go_wp2_with fail
  generalize w.alloc (.cells #[.int .i64 0, .int .i64 0, .string { data := #[] }] 48 (0, 0)) = W0 at *
  refine hq.mono ?_
  rintro e W1 ⟨x, er, rfl, hcase, hb1⟩
  have hb0 := ab.trans (hb1.mono ab.size)
  have d1 := cell_later hb1 c1
  have hx1 := below_at hb1 hx
  have hlx : x < 2 ^ (8 * 8) := by
    rcases hcase with ⟨h1, rfl, _⟩ | ⟨_, rfl, _⟩
    · rwa [List.length_take_of_le h1] at hlt
    · decide
  have CO := of_2 x hlx W1
  obtain ⟨dd, HD⟩ : ∃ d : Dat, Hid (mkN 2 x = d) := ⟨_, rfl⟩
  rw [HD.out] at CO
  obtain ⟨dk, dn, dt⟩ := dd
  simp only [dval] at CO
  clear c0 c1 hx hB hB' hlt hlx hq
  rcases hcase with ⟨hle, hxe, rfl⟩ | ⟨hnle, hxe, rfl⟩
  · have HFE : Hid (front 2 z rs = some ⟨dk, dn, dt⟩) := by show _ = _; rw [HFR.out, if_pos hle, ← hxe, HD.out]
    clear hxe hle
    go_wp2_with fail
    refine CO.mono ?_
    rintro e W2 ⟨rfl, hb2⟩
    have hx2 := below_at hb2 hx1
    obtain ⟨_, f0, f1, f2⟩ := blk3 hx2
    obtain ⟨X, HX, c0, c1, c2, hbX⟩ := box_dat hx2 ⟨dk, dn, dt⟩
    have hb3 := hb0.trans ((hb2.mono hb0.size).trans (hbX.mono (Nat.le_refl _)))
    clear hb2 hbX hx1 hx2 d1 CO
    go_wp2_with fail
    try rw [HX]
    exact bodyPost_ret (v := .tuple #[.agg #[.int .i64 dk, .int .i64 dn, .string dt], .bool true]) (by simp [results, Try.results67, go_sem, Try.underlying48, c0, c1, c2]) rfl ⟨⟨dk, dn, dt⟩, by rw [HFE.out]; try rfl, by rw [HFE.out]; intro d' hd; cases hd; try rfl, hb3⟩
  · have HFE : Hid (front 2 z rs = none) := by show _ = _; rw [HFR.out, if_neg hnle]
    clear hxe hnle
    go_wp2_with fail
    refine CO.mono ?_
    rintro e W2 ⟨rfl, hb2⟩
    have hx2 := below_at hb2 hx1
    obtain ⟨_, f0, f1, f2⟩ := blk3 hx2
    obtain ⟨X, HX, c0, c1, c2, hbX⟩ := box_dat hx2 ⟨dk, dn, dt⟩
    have hb3 := hb0.trans ((hb2.mono hb0.size).trans (hbX.mono (Nat.le_refl _)))
    clear hb2 hbX hx1 hx2 d1 CO
    go_wp2_with fail
    try rw [HX]
    exact bodyPost_ret (v := .tuple #[.agg #[.int .i64 dk, .int .i64 dn, .string dt], .bool false]) (by simp [results, Try.results67, go_sem, Try.underlying48, c0, c1, c2]) rfl ⟨⟨dk, dn, dt⟩, by rw [HFE.out]; try rfl, by rw [HFE.out]; intro d' hd; cases hd; try rfl, hb3⟩
set_option maxRecDepth 100000 in
set_option maxHeartbeats 2000000 in
theorem num3_4 (B B' : Nat) (w : World) (hB : w.cell? ⟨B, 0, none⟩ = some (.int .i64 4)) (hB' : w.cell? ⟨B', 0, none⟩ = some (.func (.func 48) #[] #[])) (a : Option Addr) (len cap p : Nat) (bs : List Nat) (h : Byt w a len cap bs) (hp : p ≤ len) (z : Int) :
    Calls Try.prog 67 #[.slice a len cap, .int .i64 p, .pointer (some ⟨B, 0, none⟩), .pointer (some ⟨B', 0, none⟩)] w fun e w' => ∃ d : Dat, e = .returned (.tuple #[dval d, .bool (front 4 z (bs.drop p)).isSome]) ∧ (∀ d', front 4 z (bs.drop p) = some d' → d = d') ∧ Below w.heap.size w w' := by
  have hx : (w.alloc (.cells #[.int .i64 0, .int .i64 0, .string { data := #[] }] 48 (0, 0))).heap[w.heap.size]? = some (.cells #[.int .i64 0, .int .i64 0, .string { data := #[] }] 48 (0, 0)) := heap_new w _
  have ab := alloc_below w (.cells #[.int .i64 0, .int .i64 0, .string { data := #[] }] 48 (0, 0))
  have hq := readl_nat (h.later ab) p 4 hp (by omega)
  have hf8 : ∀ x ∈ (bs.drop p).take 4, x < 256 := fun x hx => h.lt x (List.mem_of_mem_drop (List.mem_of_mem_take hx))
  have hlt := pk8_lt hf8
  have c0 := cell_later ab hB
  have c1 := cell_later ab hB'
  have HFR : Hid (front 4 z (bs.drop p) = if 4 ≤ (bs.drop p).length then some (mkN 4 (pk 8 ((bs.drop p).take 4))) else none) := rfl
  generalize bs.drop p = rs at *
  clear hf8 h
  go_enter Try.func67, Try.ntmps67
  go_wp2_with fail
  generalize w.alloc (.cells #[.int .i64 0, .int .i64 0, .string { data := #[] }] 48 (0, 0)) = W0 at *
  refine hq.mono ?_
  rintro e W1 ⟨x, er, rfl, hcase, hb1⟩
  have hb0 := ab.trans (hb1.mono ab.size)
  have d1 := cell_later hb1 c1
  have hx1 := below_at hb1 hx
  have hlx : x < 2 ^ (8 * 4) := by
    rcases hcase with ⟨h1, rfl, _⟩ | ⟨_, rfl, _⟩
    · rwa [List.length_take_of_le h1] at hlt
    · decide
  have CO := of_4 x hlx W1
  obtain ⟨dd, HD⟩ : ∃ d : Dat, Hid (mkN 4 x = d) := ⟨_, rfl⟩
  rw [HD.out] at CO
  obtain ⟨dk, dn, dt⟩ := dd
  simp only [dval] at CO
  clear c0 c1 hx hB hB' hlt hlx hq
  rcases hcase with ⟨hle, hxe, rfl⟩ | ⟨hnle, hxe, rfl⟩
  · have HFE : Hid (front 4 z rs = some ⟨dk, dn, dt⟩) := by show _ = _; rw [HFR.out, if_pos hle, ← hxe, HD.out]
    clear hxe hle
    go_wp2_with fail
    refine CO.mono ?_
    rintro e W2 ⟨rfl, hb2⟩
    have hx2 := below_at hb2 hx1
    obtain ⟨_, f0, f1, f2⟩ := blk3 hx2
    obtain ⟨X, HX, c0, c1, c2, hbX⟩ := box_dat hx2 ⟨dk, dn, dt⟩
    have hb3 := hb0.trans ((hb2.mono hb0.size).trans (hbX.mono (Nat.le_refl _)))
    clear hb2 hbX hx1 hx2 d1 CO
    go_wp2_with fail
    try rw [HX]
    exact bodyPost_ret (v := .tuple #[.agg #[.int .i64 dk, .int .i64 dn, .string dt], .bool true]) (by simp [results, Try.results67, go_sem, Try.underlying48, c0, c1, c2]) rfl ⟨⟨dk, dn, dt⟩, by rw [HFE.out]; try rfl, by rw [HFE.out]; intro d' hd; cases hd; try rfl, hb3⟩
  · have HFE : Hid (front 4 z rs = none) := by show _ = _; rw [HFR.out, if_neg hnle]
    clear hxe hnle
    go_wp2_with fail
    refine CO.mono ?_
    rintro e W2 ⟨rfl, hb2⟩
    have hx2 := below_at hb2 hx1
    obtain ⟨_, f0, f1, f2⟩ := blk3 hx2
    obtain ⟨X, HX, c0, c1, c2, hbX⟩ := box_dat hx2 ⟨dk, dn, dt⟩
    have hb3 := hb0.trans ((hb2.mono hb0.size).trans (hbX.mono (Nat.le_refl _)))
    clear hb2 hbX hx1 hx2 d1 CO
    go_wp2_with fail
    try rw [HX]
    exact bodyPost_ret (v := .tuple #[.agg #[.int .i64 dk, .int .i64 dn, .string dt], .bool false]) (by simp [results, Try.results67, go_sem, Try.underlying48, c0, c1, c2]) rfl ⟨⟨dk, dn, dt⟩, by rw [HFE.out]; try rfl, by rw [HFE.out]; intro d' hd; cases hd; try rfl, hb3⟩
set_option maxRecDepth 100000 in
set_option maxHeartbeats 2000000 in
theorem num3_5 (B B' : Nat) (w : World) (hB : w.cell? ⟨B, 0, none⟩ = some (.int .i64 8)) (hB' : w.cell? ⟨B', 0, none⟩ = some (.func (.func 49) #[] #[])) (a : Option Addr) (len cap p : Nat) (bs : List Nat) (h : Byt w a len cap bs) (hp : p ≤ len) (z : Int) :
    Calls Try.prog 67 #[.slice a len cap, .int .i64 p, .pointer (some ⟨B, 0, none⟩), .pointer (some ⟨B', 0, none⟩)] w fun e w' => ∃ d : Dat, e = .returned (.tuple #[dval d, .bool (front 5 z (bs.drop p)).isSome]) ∧ (∀ d', front 5 z (bs.drop p) = some d' → d = d') ∧ Below w.heap.size w w' := by
  have hx : (w.alloc (.cells #[.int .i64 0, .int .i64 0, .string { data := #[] }] 48 (0, 0))).heap[w.heap.size]? = some (.cells #[.int .i64 0, .int .i64 0, .string { data := #[] }] 48 (0, 0)) := heap_new w _
  have ab := alloc_below w (.cells #[.int .i64 0, .int .i64 0, .string { data := #[] }] 48 (0, 0))
  have hq := readl_nat (h.later ab) p 8 hp (by omega)
  have hf8 : ∀ x ∈ (bs.drop p).take 8, x < 256 := fun x hx => h.lt x (List.mem_of_mem_drop (List.mem_of_mem_take hx))
  have hlt := pk8_lt hf8
  have c0 := cell_later ab hB
  have c1 := cell_later ab hB'
  have HFR : Hid (front 5 z (bs.drop p) = if 8 ≤ (bs.drop p).length then some (mkN 5 (pk 8 ((bs.drop p).take 8))) else none) := rfl
  generalize bs.drop p = rs at *
  clear hf8 h
  go_enter Try.func67, Try.ntmps67
  go_wp2_with fail
  generalize w.alloc (.cells #[.int .i64 0, .int .i64 0, .string { data := #[] }] 48 (0, 0)) = W0 at *
  refine hq.mono ?_
  rintro e W1 ⟨x, er, rfl, hcase, hb1⟩
  have hb0 := ab.trans (hb1.mono ab.size)
  have d1 := cell_later hb1 c1
  have hx1 := below_at hb1 hx
  have hlx : x < 2 ^ (8 * 8) := by
    rcases hcase with ⟨h1, rfl, _⟩ | ⟨_, rfl, _⟩
    · rwa [List.length_take_of_le h1] at hlt
    · decide
  have CO := of_5 x hlx W1
  obtain ⟨dd, HD⟩ : ∃ d : Dat, Hid (mkN 5 x = d) := ⟨_, rfl⟩
  rw [HD.out] at CO
  obtain ⟨dk, dn, dt⟩ := dd
  simp only [dval] at CO
  clear c0 c1 hx hB hB' hlt hlx hq
  rcases hcase with ⟨hle, hxe, rfl⟩ | ⟨hnle, hxe, rfl⟩
  · have HFE : Hid (front 5 z rs = some ⟨dk, dn, dt⟩) := by show _ = _; rw [HFR.out, if_pos hle, ← hxe, HD.out]
    clear hxe hle
    go_wp2_with fail
    refine CO.mono ?_
    rintro e W2 ⟨rfl, hb2⟩
    have hx2 := below_at hb2 hx1
    obtain ⟨_, f0, f1, f2⟩ := blk3 hx2
    obtain ⟨X, HX, c0, c1, c2, hbX⟩ := box_dat hx2 ⟨dk, dn, dt⟩
    have hb3 := hb0.trans ((hb2.mono hb0.size).trans (hbX.mono (Nat.le_refl _)))
    clear hb2 hbX hx1 hx2 d1 CO
    go_wp2_with fail
    try rw [HX]
    exact bodyPost_ret (v := .tuple #[.agg #[.int .i64 dk, .int .i64 dn, .string dt], .bool true]) (by simp [results, Try.results67, go_sem, Try.underlying48, c0, c1, c2]) rfl ⟨⟨dk, dn, dt⟩, by rw [HFE.out]; try rfl, by rw [HFE.out]; intro d' hd; cases hd; try rfl, hb3⟩
  · have HFE : Hid (front 5 z rs = none) := by show _ = _; rw [HFR.out, if_neg hnle]
    clear hxe hnle
    go_wp2_with fail
    refine CO.mono ?_
    rintro e W2 ⟨rfl, hb2⟩
    have hx2 := below_at hb2 hx1
    obtain ⟨_, f0, f1, f2⟩ := blk3 hx2
    obtain ⟨X, HX, c0, c1, c2, hbX⟩ := box_dat hx2 ⟨dk, dn, dt⟩
    have hb3 := hb0.trans ((hb2.mono hb0.size).trans (hbX.mono (Nat.le_refl _)))
    clear hb2 hbX hx1 hx2 d1 CO
    go_wp2_with fail
    try rw [HX]
    exact bodyPost_ret (v := .tuple #[.agg #[.int .i64 dk, .int .i64 dn, .string dt], .bool false]) (by simp [results, Try.results67, go_sem, Try.underlying48, c0, c1, c2]) rfl ⟨⟨dk, dn, dt⟩, by rw [HFE.out]; try rfl, by rw [HFE.out]; intro d' hd; cases hd; try rfl, hb3⟩
end Go.Proofs.Ytfocmlajeflenaa
