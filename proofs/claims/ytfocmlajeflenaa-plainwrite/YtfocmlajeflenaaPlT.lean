/-
  The parts: texts, and bytes of a fixed length, read.
-/
import Derived.Test.YtfocmlajeflenaaPlS
namespace Go.Proofs.Ytfocmlajeflenaa
set_option linter.unusedVariables false
set_option linter.unusedSimpArgs false
open Go.ChangeShapes Go.WideShapes Go.ChangeAt Go.RowKit Go.Deep

set_option maxRecDepth 100000 in
set_option maxHeartbeats 2000000 in
theorem fix3_any (B z : Nat) (w : World) (hB : w.cell? ⟨B, 0, none⟩ = some (.int .i64 z)) (hz : z ≤ 1048576) (a : Option Addr) (len cap p : Nat) (bs : List Nat) (h : Byt w a len cap bs) (hp : p ≤ len) :
    Calls Try.prog 78 #[.slice a len cap, .int .i64 p, .pointer (some ⟨B, 0, none⟩)] w fun e w' => ∃ d : Dat, e = .returned (.tuple #[dval d, .bool (front 7 z (bs.drop p)).isSome]) ∧ (∀ d', front 7 z (bs.drop p) = some d' → d = d') ∧ Below w.heap.size w w' := by
  have hx : (w.alloc (.cells #[.int .i64 0, .int .i64 0, .string { data := #[] }] 48 (0, 0))).heap[w.heap.size]? = some (.cells #[.int .i64 0, .int .i64 0, .string { data := #[] }] 48 (0, 0)) := heap_new w _
  have ab := alloc_below w (.cells #[.int .i64 0, .int .i64 0, .string { data := #[] }] 48 (0, 0))
  have c0 := cell_later ab hB
  have hl := h.len
  have hz' : IntKind.u64.wrap (z : Int) = ((z : Nat) : Int) := by rw [IntKind.wrap_u64]; omega
  have hdl : (bs.drop p).length = len - p := by rw [List.length_drop, hl]
  have HFR : Hid (front 7 (z : Int) (bs.drop p) = if z ≤ (bs.drop p).length then some ⟨7, 0, txt ((bs.drop p).take z)⟩ else none) := rfl
  by_cases hin : z ≤ len - p
  · have CU := fun W (hb : Below w.heap.size w W) => cut_yes (h.later hb) p z hp hin
    have HFE : Hid (front 7 (z : Int) (bs.drop p) = some ⟨7, 0, txt ((bs.drop p).take z)⟩) := by show _ = _; rw [HFR.out, if_pos (by omega)]
    obtain ⟨T, HT⟩ : ∃ T, Hid (txt ((bs.drop p).take z) = T) := ⟨_, rfl⟩
    rw [HT.out] at CU HFE
    clear hl hdl HFR h hB hin hp
    have CF := fun W => fixed_any T W
    go_enter Try.func78, Try.ntmps78
    go_wp2_with fail
    refine (CU _ ab).mono ?_
    rintro e W1 ⟨rfl, hW1⟩
    obtain rfl := hW1.symm
    generalize w.alloc (.cells #[.int .i64 0, .int .i64 0, .string { data := #[] }] 48 (0, 0)) = W1 at *
    go_wp2_with fail
    refine (CF _).mono ?_
    rintro e W2 ⟨rfl, hb2⟩
    have hx1 := hx
    have hb0 := ab
    clear CU CF ab hx
    have hx2 := below_at hb2 hx1
    obtain ⟨_, f0, f1, f2⟩ := blk3 hx2
    obtain ⟨X, HX, c0, c1, c2, hbX⟩ := box_dat hx2 ⟨7, 0, T⟩
    have hb3 := hb0.trans ((hb2.mono hb0.size).trans (hbX.mono (Nat.le_refl _)))
    clear hb2 hbX hx1 hx2
    go_wp2_with fail
    try rw [HX]
    exact bodyPost_ret (v := .tuple #[.agg #[.int .i64 7, .int .i64 0, .string T], .bool true]) (by simp [results, Try.results78, go_sem, Try.underlying48, c0, c1, c2]) rfl ⟨⟨7, 0, T⟩, by rw [HFE.out]; try rfl, by rw [HFE.out]; intro d' hd; cases hd; try rfl, hb3⟩
  · have CU := fun W (hb : Below w.heap.size w W) => cut_no (h.later hb) p z hp (by omega) hin
    have HFE : Hid (front 7 (z : Int) (bs.drop p) = none) := by show _ = _; rw [HFR.out, if_neg (by omega)]
    clear hl hdl HFR h hB hin hp
    have CF := fun W => fixed_any { data := #[] } W
    go_enter Try.func78, Try.ntmps78
    go_wp2_with fail
    refine (CU _ ab).mono ?_
    rintro e W1 ⟨rfl, hW1⟩
    obtain rfl := hW1.symm
    generalize w.alloc (.cells #[.int .i64 0, .int .i64 0, .string { data := #[] }] 48 (0, 0)) = W1 at *
    go_wp2_with fail
    refine (CF _).mono ?_
    rintro e W2 ⟨rfl, hb2⟩
    have hx1 := hx
    have hb0 := ab
    clear CU CF ab hx
    have hx2 := below_at hb2 hx1
    obtain ⟨_, f0, f1, f2⟩ := blk3 hx2
    obtain ⟨X, HX, c0, c1, c2, hbX⟩ := box_dat hx2 ⟨7, 0, { data := #[] }⟩
    have hb3 := hb0.trans ((hb2.mono hb0.size).trans (hbX.mono (Nat.le_refl _)))
    clear hb2 hbX hx1 hx2
    go_wp2_with fail
    try rw [HX]
    exact bodyPost_ret (v := .tuple #[.agg #[.int .i64 7, .int .i64 0, .string { data := #[] }], .bool false]) (by simp [results, Try.results78, go_sem, Try.underlying48, c0, c1, c2]) rfl ⟨⟨7, 0, { data := #[] }⟩, by rw [HFE.out]; try rfl, by rw [HFE.out]; intro d' hd; cases hd; try rfl, hb3⟩
set_option maxRecDepth 100000 in
set_option maxHeartbeats 2000000 in
theorem text3_any (w : World) (a : Option Addr) (len cap p : Nat) (bs : List Nat) (h : Byt w a len cap bs) (hp : p ≤ len) (z : Int) :
    Calls Try.prog 73 #[.slice a len cap, .int .i64 p] w fun e w' => ∃ d : Dat, e = .returned (.tuple #[dval d, .bool (front 6 z (bs.drop p)).isSome]) ∧ (∀ d', front 6 z (bs.drop p) = some d' → d = d') ∧ Below w.heap.size w w' := by
  have hx : (w.alloc (.cells #[.int .i64 0, .int .i64 0, .string { data := #[] }] 48 (0, 0))).heap[w.heap.size]? = some (.cells #[.int .i64 0, .int .i64 0, .string { data := #[] }] 48 (0, 0)) := heap_new w _
  have ab := alloc_below w (.cells #[.int .i64 0, .int .i64 0, .string { data := #[] }] 48 (0, 0))
  have hl := h.len
  have RD := readl_nat (h.later ab) p 4 hp (by omega)
  have hdl : (bs.drop p).length = len - p := by rw [List.length_drop, hl]
  have hlt := pk8_lt (l := (bs.drop p).take 4) (fun x hx => h.lt x (List.mem_of_mem_drop (List.mem_of_mem_take hx)))
  have HFR : Hid (front 6 z (bs.drop p) = if 4 ≤ (bs.drop p).length ∧ pk 8 ((bs.drop p).take 4) ≤ (bs.drop p).length - 4 then some ⟨6, 0, txt (((bs.drop p).drop 4).take (pk 8 ((bs.drop p).take 4)))⟩ else none) := rfl
  have hdd : (bs.drop p).drop 4 = bs.drop (p + 4) := by rw [List.drop_drop]
  rw [hdd] at HFR
  have hlen := h.most
  have hp' : (p : Int) ≤ 1048576 := by omega
  have HH : Hid (∀ W, Below w.heap.size w W → Byt W a len cap bs) := fun W hb => h.later hb
  clear h
  go_enter Try.func73, Try.ntmps73
  go_wp2_with fail
  refine RD.mono ?_
  rintro e W1 ⟨x, er, rfl, hcase, hb1⟩
  have hx1 := below_at hb1 hx
  have hb0 := ab.trans (hb1.mono ab.size)
  obtain ⟨_, f0, f1, f2⟩ := blk3 hx1
  rcases hcase with ⟨hle, hxe, rfl⟩ | ⟨hnle, hxe, rfl⟩
  · rw [List.length_take_of_le hle, ← hxe] at hlt
    rw [← hxe] at HFR
    have hx64 : x ≤ 18446744073709551615 := by
      have : (2 : Nat) ^ (8 * 4) = 4294967296 := by decide
      omega
    have hp4 : p + 4 ≤ len := by omega
    clear hxe hlt RD hb1 hx ab
    by_cases hin : x ≤ len - (p + 4)
    · have CU := cut_yes (HH.out W1 hb0) (p + 4) x hp4 hin
      have HFE : Hid (front 6 z (bs.drop p) = some ⟨6, 0, txt ((bs.drop (p + 4)).take x)⟩) := by show _ = _; rw [HFR.out, if_pos (by omega)]
      obtain ⟨T, HT⟩ : ∃ T, Hid (txt ((bs.drop (p + 4)).take x) = T) := ⟨_, rfl⟩
      rw [HT.out] at CU HFE
      rw [show ((p + 4 : Nat) : Int) = (p : Int) + 4 from by omega] at CU
      have CF := fun W => bytes_any T W
      clear hl hdl HFR hin hle hp4 hx64 hdd hlen hp HH
      go_wp2_with fail
      refine CU.mono ?_
      rintro e W2 ⟨rfl, hW1⟩
      obtain rfl := hW1.symm
      go_wp2_with fail
      refine (CF _).mono ?_
      rintro e W2 ⟨rfl, hb2⟩
      clear CU CF f0 f1 f2
      have hx2 := below_at hb2 hx1
      obtain ⟨_, f0, f1, f2⟩ := blk3 hx2
      obtain ⟨X, HX, c0, c1, c2, hbX⟩ := box_dat hx2 ⟨6, 0, T⟩
      have hb3 := hb0.trans ((hb2.mono hb0.size).trans (hbX.mono (Nat.le_refl _)))
      clear hb2 hbX hx1 hx2
      go_wp2_with fail
      try rw [HX]
      exact bodyPost_ret (v := .tuple #[.agg #[.int .i64 6, .int .i64 0, .string T], .bool true]) (by simp [results, Try.results73, go_sem, Try.underlying48, c0, c1, c2]) rfl ⟨⟨6, 0, T⟩, by rw [HFE.out]; try rfl, by rw [HFE.out]; intro d' hd; cases hd; try rfl, hb3⟩
    · have CU := cut_no (HH.out W1 hb0) (p + 4) x hp4 hx64 hin
      have HFE : Hid (front 6 z (bs.drop p) = none) := by show _ = _; rw [HFR.out, if_neg (by omega)]
      rw [show ((p + 4 : Nat) : Int) = (p : Int) + 4 from by omega] at CU
      have CF := fun W => bytes_any { data := #[] } W
      clear hl hdl HFR hin hle hp4 hx64 hdd hlen hp HH
      go_wp2_with fail
      refine CU.mono ?_
      rintro e W2 ⟨rfl, hW1⟩
      obtain rfl := hW1.symm
      go_wp2_with fail
      refine (CF _).mono ?_
      rintro e W2 ⟨rfl, hb2⟩
      clear CU CF f0 f1 f2
      have hx2 := below_at hb2 hx1
      obtain ⟨_, f0, f1, f2⟩ := blk3 hx2
      obtain ⟨X, HX, c0, c1, c2, hbX⟩ := box_dat hx2 ⟨6, 0, { data := #[] }⟩
      have hb3 := hb0.trans ((hb2.mono hb0.size).trans (hbX.mono (Nat.le_refl _)))
      clear hb2 hbX hx1 hx2
      go_wp2_with fail
      try rw [HX]
      exact bodyPost_ret (v := .tuple #[.agg #[.int .i64 6, .int .i64 0, .string { data := #[] }], .bool false]) (by simp [results, Try.results73, go_sem, Try.underlying48, c0, c1, c2]) rfl ⟨⟨6, 0, { data := #[] }⟩, by rw [HFE.out]; try rfl, by rw [HFE.out]; intro d' hd; cases hd; try rfl, hb3⟩
  · have HFE : Hid (front 6 z (bs.drop p) = none) := by show _ = _; rw [HFR.out, if_neg (by omega)]
    have hb2 : Below W1.heap.size W1 W1 := Below.refl _ _
    clear hl hdl HFR hnle hdd hlen hp HH hlt RD hb1 hx ab hxe
    have hx2 := below_at hb2 hx1
    obtain ⟨_, f0, f1, f2⟩ := blk3 hx2
    obtain ⟨X, HX, c0, c1, c2, hbX⟩ := box_dat hx2 ⟨0, 0, { data := #[] }⟩
    have hb3 := hb0.trans ((hb2.mono hb0.size).trans (hbX.mono (Nat.le_refl _)))
    clear hb2 hbX hx1 hx2
    go_wp2_with fail
    try rw [HX]
    exact bodyPost_ret (v := .tuple #[.agg #[.int .i64 0, .int .i64 0, .string { data := #[] }], .bool false]) (by simp [results, Try.results73, go_sem, Try.underlying48, c0, c1, c2]) rfl ⟨⟨0, 0, { data := #[] }⟩, by rw [HFE.out]; try rfl, by rw [HFE.out]; intro d' hd; cases hd; try rfl, hb3⟩
end Go.Proofs.Ytfocmlajeflenaa
