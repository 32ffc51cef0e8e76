/-
  Numbers as bytes, said of bytes as numbers that are not negative.
-/
import Derived.Test.YtdglobonbhkheaaPlK
import Derived.Test.YtdglobonbhkheaaBLit
import Derived.Test.YtdglobonbhkheaaJ4
import Derived.Test.YtdglobonbhkheaaJ5
import Derived.Test.YtdglobonbhkheaaBox
import Derived.Deep.RegionHeld3
import Derived.WalkSmall
namespace Go.Proofs.Ytdglobonbhkheaa
set_option linter.unusedVariables false
set_option linter.unusedSimpArgs false
open Go.ChangeShapes Go.WideShapes Go.ChangeAt Go.RowKit

theorem lb_upk : ∀ (k N : Nat), lb k (N : Int) = ints (upk 8 k N)
  | 0, _ => rfl
  | k + 1, N => by
    have e : ((N : Int) / 256) = ((N / 256 : Nat) : Int) := by omega
    rw [lb, e, lb_upk k, upk, ints, ints, List.map_cons]
    rfl
theorem rl_pk : ∀ l : List Nat, rl (ints l) = ((pk 8 l : Nat) : Int)
  | [] => rfl
  | x :: l => by
    have e : ints (x :: l) = (x : Int) :: ints l := rfl
    rw [e, rl, rl_pk l, pk]
    omega
theorem ints_drop (l : List Nat) (p k : Nat) : ((ints l).drop p).take k = ints ((l.drop p).take k) := by simp [ints, List.map_take, List.map_drop]
theorem ints_len (l : List Nat) : (ints l).length = l.length := by simp [ints]
theorem bytes_ints {l : List Nat} (h : ∀ x ∈ l, x < 256) : Bytes (ints l) := by
  intro c hc
  obtain ⟨x, hx, rfl⟩ := List.mem_map.1 hc
  have := h x hx
  omega

theorem little_nat (N k : Nat) (hk : k ≤ 8) (h : N < 2 ^ (8 * k)) (w : World) :
    Calls Try.prog 66 #[.int .u64 N, .int .i64 k] w fun e w' => ∃ v, e = .returned (.tuple #[v, .int .i64 0]) ∧ w'.ownsRow w.heap.size 5 1 v k (c8 (upk 8 k N)) ∧ Below w.heap.size w w' := by
  have h64 : N < 2 ^ 64 := Nat.lt_of_lt_of_le h (Nat.pow_le_pow_right (by omega) (by omega))
  have hb : Lib.bitLen N ≤ 8 * k := Lib.bitLen_le N (8 * k) (by omega) (by simpa using h)
  have := little_yes (N : Int) k w (by omega) (by omega) (by unfold ltlNo; rw [Int.toNat_natCast]; omega)
  rw [lb_upk, ← c8_ints] at this
  exact this
/-- the number at a place, and whether it is there -/
theorem readl_nat {w : World} {a : Option Addr} {len cap : Nat} {bs : List Nat} (h : Byt w a len cap bs) (p k : Nat) (hp : p ≤ len) (hk : k ≤ 8) :
    Calls Try.prog 68 #[.slice a len cap, .int .i64 p, .int .i64 k] w fun e w' => ∃ x er : Nat, e = .returned (.tuple #[.int .u64 x, .int .i64 er]) ∧ ((k ≤ (bs.drop p).length ∧ x = pk 8 ((bs.drop p).take k) ∧ er = 0) ∨ (¬ k ≤ (bs.drop p).length ∧ x = 0 ∧ er = 6)) ∧ Below w.heap.size w w' := by
  have hl := h.len
  have R := readl_any a len cap (p : Int) (k : Int) (ints bs) w h.most (by rw [← c8_ints]; exact h.src) (bytes_ints h.lt)
  refine R.mono ?_
  rintro e w' ⟨rfl, hb⟩
  have hil : (ints bs).length = len := by rw [ints_len, hl]
  by_cases hin : p + k ≤ len
  · obtain ⟨e1, e2⟩ := rle_ok (zs := ints bs) (L := (len : Int)) (p := p) (k := k) (by rw [hil]) (by omega) (by omega)
    rw [e1, e2, Int.toNat_natCast, Int.toNat_natCast, ints_drop, rl_pk]
    exact ⟨_, 0, rfl, .inl ⟨by rw [List.length_drop]; omega, rfl, rfl⟩, hb⟩
  · obtain ⟨e1, e2⟩ := rle_short (zs := ints bs) (L := (len : Int)) (p := p) (k := k) (by rw [hil]) (by omega) (by omega)
    rw [e1, e2]
    exact ⟨0, 6, rfl, .inr ⟨by rw [List.length_drop]; omega, rfl, rfl⟩, hb⟩
theorem rreadl_nat {w : World} {a : Option Addr} {len cap : Nat} {bs : List Nat} (h : Byt w a len cap bs) (p k : Nat) (hp : p ≤ len) (hk : k ≤ 8) :
    Calls Try.prog 28 #[.slice a len cap, .int .i64 p, .int .i64 k] w fun e w' => ∃ x er : Nat, e = .returned (.tuple #[.int .u64 x, .int .i64 er]) ∧ ((k ≤ (bs.drop p).length ∧ x = pk 8 ((bs.drop p).take k) ∧ er = 0) ∨ (¬ k ≤ (bs.drop p).length ∧ x = 0 ∧ er = 6)) ∧ w' = w := by
  have hl := h.len
  have R := rreadl_any a len cap (p : Int) (k : Int) (ints bs) w h.most (by rw [← c8_ints]; exact h.src) (bytes_ints h.lt)
  refine R.mono ?_
  rintro e w' ⟨rfl, hb⟩
  have hil : (ints bs).length = len := by rw [ints_len, hl]
  by_cases hin : p + k ≤ len
  · obtain ⟨e1, e2⟩ := rle_ok (zs := ints bs) (L := (len : Int)) (p := p) (k := k) (by rw [hil]) (by omega) (by omega)
    rw [e1, e2, Int.toNat_natCast, Int.toNat_natCast, ints_drop, rl_pk]
    exact ⟨_, 0, rfl, .inl ⟨by rw [List.length_drop]; omega, rfl, rfl⟩, hb⟩
  · obtain ⟨e1, e2⟩ := rle_short (zs := ints bs) (L := (len : Int)) (p := p) (k := k) (by rw [hil]) (by omega) (by omega)
    rw [e1, e2]
    exact ⟨0, 6, rfl, .inr ⟨by rw [List.length_drop]; omega, rfl, rfl⟩, hb⟩
theorem pk8_lt {l : List Nat} (h : ∀ x ∈ l, x < 256) : pk 8 l < 2 ^ (8 * l.length) := pk_lt 8 l (fun x hx => by have := h x hx; omega)
end Go.Proofs.Ytdglobonbhkheaa

/-
  The parts: a number is read.
-/
namespace Go.Proofs.Ytdglobonbhkheaa
set_option linter.unusedVariables false
set_option linter.unusedSimpArgs false
open Go.ChangeShapes Go.WideShapes Go.ChangeAt Go.RowKit Go.Deep

/-- a datum's cells were stored into a box: what is handed back -/
theorem box_dat {W : World} {b : Nat} {x0 x1 x2 : Value} (h : W.heap[b]? = some (.cells #[x0, x1, x2] 48 (0, 0))) (d : Dat) : ∃ X, ((W.setCell ⟨b, 0, none⟩ (.int .i64 d.k)).setCell ⟨b, 1, none⟩ (.int .i64 d.n)).setCell ⟨b, 2, none⟩ (.string d.s) = X ∧ X.cell? ⟨b, 0, none⟩ = some (.int .i64 d.k) ∧ X.cell? ⟨b, 1, none⟩ = some (.int .i64 d.n) ∧ X.cell? ⟨b, 2, none⟩ = some (.string d.s) ∧ Below b W X := by
  obtain ⟨s1, s2⟩ := store3 h (.int .i64 d.k) (.int .i64 d.n) (.string d.s)
  obtain ⟨⟨c0, c1, c2⟩, _⟩ := blk3 s1
  exact ⟨_, rfl, c0, c1, c2, (((Below.refl b W).setCell (p := ⟨b, 0, none⟩) (Nat.le_refl _) _).setCell (p := ⟨b, 1, none⟩) (Nat.le_refl _) _).setCell (p := ⟨b, 2, none⟩) (Nat.le_refl _) _⟩
theorem w32_eq (x : Int) (h0 : 0 ≤ x) (h : x < 4294967296) : wrap32 x = if 2147483647 < x then x - 4294967296 else x := by
  unfold wrap32
  split <;> omega
theorem p32 {x : Nat} (h : x < 2 ^ (8 * 4)) : (x : Int) < 4294967296 := by
  have e : (2 : Nat) ^ (8 * 4) = 4294967296 := by decide
  rw [e] at h
  omega
theorem p64 {x : Nat} (h : x < 2 ^ (8 * 8)) : (x : Int) < 18446744073709551616 := by
  have e : (2 : Nat) ^ (8 * 8) = 18446744073709551616 := by decide
  rw [e] at h
  omega
theorem mkN_1 (x : Nat) (h : x < 2 ^ (8 * 4)) : (mkN 1 x).n = wrap32 (x : Int) := by
  rw [w32_eq (x : Int) (Int.natCast_nonneg x) (p32 h)]
  simp only [mkN, if_true]
theorem mkN_o (k : Int) (x : Nat) (h : k ≠ 1) : (mkN k x).n = wrap64 (x : Int) := by
  simp only [mkN, if_neg h]
theorem mkN_4 (x : Nat) (h : x < 2 ^ (8 * 4)) : (mkN 4 x).n = (x : Int) := by
  rw [mkN_o 4 x (by decide)]
  have := p32 h
  unfold wrap64
  omega
theorem mkN_v (k : Int) (x : Nat) (n : Int) (h : (mkN k x).n = n) : dval (mkN k x) = .agg #[.int .i64 k, .int .i64 n, .string { data := #[] }] := by rw [← h]; rfl
set_option maxRecDepth 100000 in
set_option maxHeartbeats 1000000 in
theorem of_1 (x : Nat) (h : x < 2 ^ (8 * 4)) (w : World) : Calls Try.prog 46 #[.int .u64 x] w fun e w' => e = .returned (dval (mkN 1 x)) ∧ Below w.heap.size w w' := by
  have hb : -2147483648 ≤ wrap32 (x : Int) ∧ wrap32 (x : Int) ≤ 2147483647 := by unfold wrap32; omega
  rw [mkN_v 1 x (wrap32 (x : Int)) (mkN_1 x h)]
  have r := int32_any (wrap32 (x : Int)) hb.1 hb.2 (w.alloc (.cells #[.int .i64 0, .int .i64 0, .string { data := #[] }] 48 (0, 0)))
  have ab := alloc_below w (.cells #[.int .i64 0, .int .i64 0, .string { data := #[] }] 48 (0, 0))
  clear h hb
  generalize HY : wrap32 (x : Int) = y at *
  go_enter Try.func46, Try.ntmps46
  go_wp2_with fail
  rw [HY]
  refine r.mono ?_
  rintro e W1 ⟨rfl, hb1⟩
  have hx1 := below_at hb1 (heap_new w (.cells #[.int .i64 0, .int .i64 0, .string { data := #[] }] 48 (0, 0)))
  obtain ⟨_, f0, f1, f2⟩ := blk3 hx1
  obtain ⟨X, HX, c0, c1, c2, hbX⟩ := box_dat hx1 ⟨1, y, { data := #[] }⟩
  have hb3 := ab.trans ((hb1.mono ab.size).trans hbX)
  clear hb1 hbX hx1 ab
  go_wp2_with fail
  try rw [HX]
  exact bodyPost_ret (v := .agg #[.int .i64 1, .int .i64 y, .string { data := #[] }]) (by simp [results, Try.results46, go_sem, Try.underlying48, c0, c1, c2]) rfl ⟨rfl, hb3⟩
set_option maxRecDepth 100000 in
set_option maxHeartbeats 1000000 in
theorem of_2 (x : Nat) (h : x < 2 ^ (8 * 8)) (w : World) : Calls Try.prog 47 #[.int .u64 x] w fun e w' => e = .returned (dval (mkN 2 x)) ∧ Below w.heap.size w w' := by
  rw [mkN_v 2 x (wrap64 (x : Int)) (mkN_o _ x (by decide))]
  have r := int64_any (wrap64 (x : Int)) (w.alloc (.cells #[.int .i64 0, .int .i64 0, .string { data := #[] }] 48 (0, 0)))
  have ab := alloc_below w (.cells #[.int .i64 0, .int .i64 0, .string { data := #[] }] 48 (0, 0))
  clear h
  generalize HY : wrap64 (x : Int) = y at *
  go_enter Try.func47, Try.ntmps47
  go_wp2_with fail
  rw [HY]
  refine r.mono ?_
  rintro e W1 ⟨rfl, hb1⟩
  have hx1 := below_at hb1 (heap_new w (.cells #[.int .i64 0, .int .i64 0, .string { data := #[] }] 48 (0, 0)))
  obtain ⟨_, f0, f1, f2⟩ := blk3 hx1
  obtain ⟨X, HX, c0, c1, c2, hbX⟩ := box_dat hx1 ⟨2, y, { data := #[] }⟩
  have hb3 := ab.trans ((hb1.mono ab.size).trans hbX)
  clear hb1 hbX hx1 ab
  go_wp2_with fail
  try rw [HX]
  exact bodyPost_ret (v := .agg #[.int .i64 2, .int .i64 y, .string { data := #[] }]) (by simp [results, Try.results47, go_sem, Try.underlying48, c0, c1, c2]) rfl ⟨rfl, hb3⟩
set_option maxRecDepth 100000 in
set_option maxHeartbeats 1000000 in
theorem of_4 (x : Nat) (h : x < 2 ^ (8 * 4)) (w : World) : Calls Try.prog 48 #[.int .u64 x] w fun e w' => e = .returned (dval (mkN 4 x)) ∧ Below w.heap.size w w' := by
  rw [mkN_v 4 x (wrap64 (x : Int)) (mkN_o _ x (by decide))]
  have ab := alloc_below w (.cells #[.int .i64 0, .int .i64 0, .string { data := #[] }] 48 (0, 0))
  clear h
  go_enter Try.func48, Try.ntmps48
  go_wp2_with fail
  exact bodyPost_ret (v := .agg #[.int .i64 4, .int .i64 (wrap64 (x : Int)), .string { data := #[] }]) (by simp [results, Try.results48, go_sem, Try.underlying48]) rfl ⟨rfl, alloc_below _ _⟩
set_option maxRecDepth 100000 in
set_option maxHeartbeats 1000000 in
theorem of_5 (x : Nat) (h : x < 2 ^ (8 * 8)) (w : World) : Calls Try.prog 49 #[.int .u64 x] w fun e w' => e = .returned (dval (mkN 5 x)) ∧ Below w.heap.size w w' := by
  rw [mkN_v 5 x (wrap64 (x : Int)) (mkN_o _ x (by decide))]
  have ab := alloc_below w (.cells #[.int .i64 0, .int .i64 0, .string { data := #[] }] 48 (0, 0))
  clear h
  go_enter Try.func49, Try.ntmps49
  go_wp2_with fail
  exact bodyPost_ret (v := .agg #[.int .i64 5, .int .i64 (wrap64 (x : Int)), .string { data := #[] }]) (by simp [results, Try.results49, go_sem, Try.underlying48]) rfl ⟨rfl, alloc_below _ _⟩
end Go.Proofs.Ytdglobonbhkheaa

/-
  The parts: a number is read.
-/
namespace Go.Proofs.Ytdglobonbhkheaa
set_option linter.unusedVariables false
set_option linter.unusedSimpArgs false
open Go.ChangeShapes Go.WideShapes Go.ChangeAt Go.RowKit Go.Deep

set_option maxRecDepth 100000 in
set_option maxHeartbeats 2000000 in
theorem num3_1 (B B' : Nat) (w : World) (hB : w.cell? ⟨B, 0, none⟩ = some (.int .i64 4)) (hB' : w.cell? ⟨B', 0, none⟩ = some (.func (.func 46) #[] #[])) (a : Option Addr) (len cap p : Nat) (bs : List Nat) (h : Byt w a len cap bs) (hp : p ≤ len) (z : Int) :
    Calls Try.prog 67 #[.slice a len cap, .int .i64 p, .pointer (some ⟨B, 0, none⟩), .pointer (some ⟨B', 0, none⟩)] w fun e w' => ∃ d : Dat, e = .returned (.tuple #[dval d, .bool (front 1 z (bs.drop p)).isSome]) ∧ (∀ d', front 1 z (bs.drop p) = some d' → d = d') ∧ Below w.heap.size w w' := by
  have hx : (w.alloc (.cells #[.int .i64 0, .int .i64 0, .string { data := #[] }] 48 (0, 0))).heap[w.heap.size]? = some (.cells #[.int .i64 0, .int .i64 0, .string { data := #[] }] 48 (0, 0)) := heap_new w _
  have ab := alloc_below w (.cells #[.int .i64 0, .int .i64 0, .string { data := #[] }] 48 (0, 0))
  have hq := readl_nat (h.later ab) p 4 hp (by omega)
  have hf8 : ∀ x ∈ (bs.drop p).take 4, x < 256 := fun x hx => h.lt x (List.mem_of_mem_drop (List.mem_of_mem_take hx))
  have hlt := pk8_lt hf8
  have c0 := cell_later ab hB
  have c1 := cell_later ab hB'
  have HFR : Hid (front 1 z (bs.drop p) = if 4 ≤ (bs.drop p).length then some (mkN 1 (pk 8 ((bs.drop p).take 4))) else none) := rfl
  generalize bs.drop p = rs at *
  clear hf8 h
  go_enter Try.func67, Try.ntmps67
  go_wp2_with fail
  generalize w.alloc (.cells #[.int .i64 0, .int .i64 0, .string { data := #[] }] 48 (0, 0)) = W0 at *
  refine hq.mono ?_
  rintro e W1 ⟨x, er, rfl, hcase, hb1⟩
  have hb0 := ab.trans (hb1.mono ab.size)
  have d1 := cell_later hb1 c1
  have hx1 := below_at hb1 hx
  have hlx : x < 2 ^ (8 * 4) := by
    rcases hcase with ⟨h1, rfl, _⟩ | ⟨_, rfl, _⟩
    · rwa [List.length_take_of_le h1] at hlt
    · decide
  have CO := of_1 x hlx W1
  obtain ⟨dd, HD⟩ : ∃ d : Dat, Hid (mkN 1 x = d) := ⟨_, rfl⟩
  rw [HD.out] at CO
  obtain ⟨dk, dn, dt⟩ := dd
  simp only [dval] at CO
  clear c0 c1 hx hB hB' hlt hlx hq
  rcases hcase with ⟨hle, hxe, rfl⟩ | ⟨hnle, hxe, rfl⟩
  · have HFE : Hid (front 1 z rs = some ⟨dk, dn, dt⟩) := by show _ = _; rw [HFR.out, if_pos hle, ← hxe, HD.out]
    clear hxe hle
    go_wp2_with fail
    refine CO.mono ?_
    rintro e W2 ⟨rfl, hb2⟩
    have hx2 := below_at hb2 hx1
    obtain ⟨_, f0, f1, f2⟩ := blk3 hx2
    obtain ⟨X, HX, c0, c1, c2, hbX⟩ := box_dat hx2 ⟨dk, dn, dt⟩
    have hb3 := hb0.trans ((hb2.mono hb0.size).trans (hbX.mono (Nat.le_refl _)))
    clear hb2 hbX hx1 hx2 d1 CO
    go_wp2_with fail
    try rw [HX]
    exact bodyPost_ret (v := .tuple #[.agg #[.int .i64 dk, .int .i64 dn, .string dt], .bool true]) (by simp [results, Try.results67, go_sem, Try.underlying48, c0, c1, c2]) rfl ⟨⟨dk, dn, dt⟩, by rw [HFE.out]; try rfl, by rw [HFE.out]; intro d' hd; cases hd; try rfl, hb3⟩
  · have HFE : Hid (front 1 z rs = none) := by show _ = _; rw [HFR.out, if_neg hnle]
    clear hxe hnle
    go_wp2_with fail
    refine CO.mono ?_
    rintro e W2 ⟨rfl, hb2⟩
    have hx2 := below_at hb2 hx1
    obtain ⟨_, f0, f1, f2⟩ := blk3 hx2
    obtain ⟨X, HX, c0, c1, c2, hbX⟩ := box_dat hx2 ⟨dk, dn, dt⟩
    have hb3 := hb0.trans ((hb2.mono hb0.size).trans (hbX.mono (Nat.le_refl _)))
    clear hb2 hbX hx1 hx2 d1 CO
    go_wp2_with fail
    try rw [HX]
    exact bodyPost_ret (v := .tuple #[.agg #[.int .i64 dk, .int .i64 dn, .string dt], .bool false]) (by simp [results, Try.results67, go_sem, Try.underlying48, c0, c1, c2]) rfl ⟨⟨dk, dn, dt⟩, by rw [HFE.out]; try rfl, by rw [HFE.out]; intro d' hd; cases hd; try rfl, hb3⟩
set_option maxRecDepth 100000 in
set_option maxHeartbeats 2000000 in
theorem num3_2 (B B' : Nat) (w : World) (hB : w.cell? ⟨B, 0, none⟩ = some (.int .i64 8)) (hB' : w.cell? ⟨B', 0, none⟩ = some (.func (.func 47) #[] #[])) (a : Option Addr) (len cap p : Nat) (bs : List Nat) (h : Byt w a len cap bs) (hp : p ≤ len) (z : Int) :
    Calls Try.prog 67 #[.slice a len cap, .int .i64 p, .pointer (some ⟨B, 0, none⟩), .pointer (some ⟨B', 0, none⟩)] w fun e w' => ∃ d : Dat, e = .returned (.tuple #[dval d, .bool (front 2 z (bs.drop p)).isSome]) ∧ (∀ d', front 2 z (bs.drop p) = some d' → d = d') ∧ Below w.heap.size w w' := by
  have hx : (w.alloc (.cells #[.int .i64 0, .int .i64 0, .string { data := #[] }] 48 (0, 0))).heap[w.heap.size]? = some (.cells #[.int .i64 0, .int .i64 0, .string { data := #[] }] 48 (0, 0)) := heap_new w _
  have ab := alloc_below w (.cells #[.int .i64 0, .int .i64 0, .string { data := #[] }] 48 (0, 0))
  have hq := readl_nat (h.later ab) p 8 hp (by omega)
  have hf8 : ∀ x ∈ (bs.drop p).take 8, x < 256 := fun x hx => h.lt x (List.mem_of_mem_drop (List.mem_of_mem_take hx))
  have hlt := pk8_lt hf8
  have c0 := cell_later ab hB
  have c1 := cell_later ab hB'
  have HFR : Hid (front 2 z (bs.drop p) = if 8 ≤ (bs.drop p).length then some (mkN 2 (pk 8 ((bs.drop p).take 8))) else none) := rfl
  generalize bs.drop p = rs at *
  clear hf8 h
  go_enter Try.func67, Try.ntmps67
  go_wp2_with fail
  generalize w.alloc (.cells #[.int .i64 0, .int .i64 0, .string { data := #[] }] 48 (0, 0)) = W0 at *
  refine hq.mono ?_
  rintro e W1 ⟨x, er, rfl, hcase, hb1⟩
  have hb0 := ab.trans (hb1.mono ab.size)
  have d1 := cell_later hb1 c1
  have hx1 := below_at hb1 hx
  have hlx : x < 2 ^ (8 * 8) := by
    rcases hcase with ⟨h1, rfl, _⟩ | ⟨_, rfl, _⟩
    · rwa [List.length_take_of_le h1] at hlt
    · decide
  have CO := of_2 x hlx W1
  obtain ⟨dd, HD⟩ : ∃ d : Dat, Hid (mkN 2 x = d) := ⟨_, rfl⟩
  rw [HD.out] at CO
  obtain ⟨dk, dn, dt⟩ := dd
  simp only [dval] at CO
  clear c0 c1 hx hB hB' hlt hlx hq
  rcases hcase with ⟨hle, hxe, rfl⟩ | ⟨hnle, hxe, rfl⟩
  · have HFE : Hid (front 2 z rs = some ⟨dk, dn, dt⟩) := by show _ = _; rw [HFR.out, if_pos hle, ← hxe, HD.out]
    clear hxe hle
    go_wp2_with fail
    refine CO.mono ?_
    rintro e W2 ⟨rfl, hb2⟩
    have hx2 := below_at hb2 hx1
    obtain ⟨_, f0, f1, f2⟩ := blk3 hx2
    obtain ⟨X, HX, c0, c1, c2, hbX⟩ := box_dat hx2 ⟨dk, dn, dt⟩
    have hb3 := hb0.trans ((hb2.mono hb0.size).trans (hbX.mono (Nat.le_refl _)))
    clear hb2 hbX hx1 hx2 d1 CO
    go_wp2_with fail
    try rw [HX]
    exact bodyPost_ret (v := .tuple #[.agg #[.int .i64 dk, .int .i64 dn, .string dt], .bool true]) (by simp [results, Try.results67, go_sem, Try.underlying48, c0, c1, c2]) rfl ⟨⟨dk, dn, dt⟩, by rw [HFE.out]; try rfl, by rw [HFE.out]; intro d' hd; cases hd; try rfl, hb3⟩
  · have HFE : Hid (front 2 z rs = none) := by show _ = _; rw [HFR.out, if_neg hnle]
    clear hxe hnle
    go_wp2_with fail
    refine CO.mono ?_
    rintro e W2 ⟨rfl, hb2⟩
    have hx2 := below_at hb2 hx1
    obtain ⟨_, f0, f1, f2⟩ := blk3 hx2
    obtain ⟨X, HX, c0, c1, c2, hbX⟩ := box_dat hx2 ⟨dk, dn, dt⟩
    have hb3 := hb0.trans ((hb2.mono hb0.size).trans (hbX.mono (Nat.le_refl _)))
    clear hb2 hbX hx1 hx2 d1 CO
    go_wp2_with fail
    try rw [HX]
    exact bodyPost_ret (v := .tuple #[.agg #[.int .i64 dk, .int .i64 dn, .string dt], .bool false]) (by simp [results, Try.results67, go_sem, Try.underlying48, c0, c1, c2]) rfl ⟨⟨dk, dn, dt⟩, by rw [HFE.out]; try rfl, by rw [HFE.out]; intro d' hd; cases hd; try rfl, hb3⟩
set_option maxRecDepth 100000 in
set_option maxHeartbeats 2000000 in
theorem num3_4 (B B' : Nat) (w : World) (hB : w.cell? ⟨B, 0, none⟩ = some (.int .i64 4)) (hB' : w.cell? ⟨B', 0, none⟩ = some (.func (.func 48) #[] #[])) (a : Option Addr) (len cap p : Nat) (bs : List Nat) (h : Byt w a len cap bs) (hp : p ≤ len) (z : Int) :
    Calls Try.prog 67 #[.slice a len cap, .int .i64 p, .pointer (some ⟨B, 0, none⟩), .pointer (some ⟨B', 0, none⟩)] w fun e w' => ∃ d : Dat, e = .returned (.tuple #[dval d, .bool (front 4 z (bs.drop p)).isSome]) ∧ (∀ d', front 4 z (bs.drop p) = some d' → d = d') ∧ Below w.heap.size w w' := by
  have hx : (w.alloc (.cells #[.int .i64 0, .int .i64 0, .string { data := #[] }] 48 (0, 0))).heap[w.heap.size]? = some (.cells #[.int .i64 0, .int .i64 0, .string { data := #[] }] 48 (0, 0)) := heap_new w _
  have ab := alloc_below w (.cells #[.int .i64 0, .int .i64 0, .string { data := #[] }] 48 (0, 0))
  have hq := readl_nat (h.later ab) p 4 hp (by omega)
  have hf8 : ∀ x ∈ (bs.drop p).take 4, x < 256 := fun x hx => h.lt x (List.mem_of_mem_drop (List.mem_of_mem_take hx))
  have hlt := pk8_lt hf8
  have c0 := cell_later ab hB
  have c1 := cell_later ab hB'
  have HFR : Hid (front 4 z (bs.drop p) = if 4 ≤ (bs.drop p).length then some (mkN 4 (pk 8 ((bs.drop p).take 4))) else none) := rfl
  generalize bs.drop p = rs at *
  clear hf8 h
  go_enter Try.func67, Try.ntmps67
  go_wp2_with fail
  generalize w.alloc (.cells #[.int .i64 0, .int .i64 0, .string { data := #[] }] 48 (0, 0)) = W0 at *
  refine hq.mono ?_
  rintro e W1 ⟨x, er, rfl, hcase, hb1⟩
  have hb0 := ab.trans (hb1.mono ab.size)
  have d1 := cell_later hb1 c1
  have hx1 := below_at hb1 hx
  have hlx : x < 2 ^ (8 * 4) := by
    rcases hcase with ⟨h1, rfl, _⟩ | ⟨_, rfl, _⟩
    · rwa [List.length_take_of_le h1] at hlt
    · decide
  have CO := of_4 x hlx W1
  obtain ⟨dd, HD⟩ : ∃ d : Dat, Hid (mkN 4 x = d) := ⟨_, rfl⟩
  rw [HD.out] at CO
  obtain ⟨dk, dn, dt⟩ := dd
  simp only [dval] at CO
  clear c0 c1 hx hB hB' hlt hlx hq
  rcases hcase with ⟨hle, hxe, rfl⟩ | ⟨hnle, hxe, rfl⟩
  · have HFE : Hid (front 4 z rs = some ⟨dk, dn, dt⟩) := by show _ = _; rw [HFR.out, if_pos hle, ← hxe, HD.out]
    clear hxe hle
    go_wp2_with fail
    refine CO.mono ?_
    rintro e W2 ⟨rfl, hb2⟩
    have hx2 := below_at hb2 hx1
    obtain ⟨_, f0, f1, f2⟩ := blk3 hx2
    obtain ⟨X, HX, c0, c1, c2, hbX⟩ := box_dat hx2 ⟨dk, dn, dt⟩
    have hb3 := hb0.trans ((hb2.mono hb0.size).trans (hbX.mono (Nat.le_refl _)))
    clear hb2 hbX hx1 hx2 d1 CO
    go_wp2_with fail
    try rw [HX]
    exact bodyPost_ret (v := .tuple #[.agg #[.int .i64 dk, .int .i64 dn, .string dt], .bool true]) (by simp [results, Try.results67, go_sem, Try.underlying48, c0, c1, c2]) rfl ⟨⟨dk, dn, dt⟩, by rw [HFE.out]; try rfl, by rw [HFE.out]; intro d' hd; cases hd; try rfl, hb3⟩
  · have HFE : Hid (front 4 z rs = none) := by show _ = _; rw [HFR.out, if_neg hnle]
    clear hxe hnle
    go_wp2_with fail
    refine CO.mono ?_
    rintro e W2 ⟨rfl, hb2⟩
    have hx2 := below_at hb2 hx1
    obtain ⟨_, f0, f1, f2⟩ := blk3 hx2
    obtain ⟨X, HX, c0, c1, c2, hbX⟩ := box_dat hx2 ⟨dk, dn, dt⟩
    have hb3 := hb0.trans ((hb2.mono hb0.size).trans (hbX.mono (Nat.le_refl _)))
    clear hb2 hbX hx1 hx2 d1 CO
    go_wp2_with fail
    try rw [HX]
    exact bodyPost_ret (v := .tuple #[.agg #[.int .i64 dk, .int .i64 dn, .string dt], .bool false]) (by simp [results, Try.results67, go_sem, Try.underlying48, c0, c1, c2]) rfl ⟨⟨dk, dn, dt⟩, by rw [HFE.out]; try rfl, by rw [HFE.out]; intro d' hd; cases hd; try rfl, hb3⟩
set_option maxRecDepth 100000 in
set_option maxHeartbeats 2000000 in
theorem num3_5 (B B' : Nat) (w : World) (hB : w.cell? ⟨B, 0, none⟩ = some (.int .i64 8)) (hB' : w.cell? ⟨B', 0, none⟩ = some (.func (.func 49) #[] #[])) (a : Option Addr) (len cap p : Nat) (bs : List Nat) (h : Byt w a len cap bs) (hp : p ≤ len) (z : Int) :
    Calls Try.prog 67 #[.slice a len cap, .int .i64 p, .pointer (some ⟨B, 0, none⟩), .pointer (some ⟨B', 0, none⟩)] w fun e w' => ∃ d : Dat, e = .returned (.tuple #[dval d, .bool (front 5 z (bs.drop p)).isSome]) ∧ (∀ d', front 5 z (bs.drop p) = some d' → d = d') ∧ Below w.heap.size w w' := by
  have hx : (w.alloc (.cells #[.int .i64 0, .int .i64 0, .string { data := #[] }] 48 (0, 0))).heap[w.heap.size]? = some (.cells #[.int .i64 0, .int .i64 0, .string { data := #[] }] 48 (0, 0)) := heap_new w _
  have ab := alloc_below w (.cells #[.int .i64 0, .int .i64 0, .string { data := #[] }] 48 (0, 0))
  have hq := readl_nat (h.later ab) p 8 hp (by omega)
  have hf8 : ∀ x ∈ (bs.drop p).take 8, x < 256 := fun x hx => h.lt x (List.mem_of_mem_drop (List.mem_of_mem_take hx))
  have hlt := pk8_lt hf8
  have c0 := cell_later ab hB
  have c1 := cell_later ab hB'
  have HFR : Hid (front 5 z (bs.drop p) = if 8 ≤ (bs.drop p).length then some (mkN 5 (pk 8 ((bs.drop p).take 8))) else none) := rfl
  generalize bs.drop p = rs at *
  clear hf8 h
  go_enter Try.func67, Try.ntmps67
  go_wp2_with fail
  generalize w.alloc (.cells #[.int .i64 0, .int .i64 0, .string { data := #[] }] 48 (0, 0)) = W0 at *
  refine hq.mono ?_
  rintro e W1 ⟨x, er, rfl, hcase, hb1⟩
  have hb0 := ab.trans (hb1.mono ab.size)
  have d1 := cell_later hb1 c1
  have hx1 := below_at hb1 hx
  have hlx : x < 2 ^ (8 * 8) := by
    rcases hcase with ⟨h1, rfl, _⟩ | ⟨_, rfl, _⟩
    · rwa [List.length_take_of_le h1] at hlt
    · decide
  have CO := of_5 x hlx W1
  obtain ⟨dd, HD⟩ : ∃ d : Dat, Hid (mkN 5 x = d) := ⟨_, rfl⟩
  rw [HD.out] at CO
  obtain ⟨dk, dn, dt⟩ := dd
  simp only [dval] at CO
  clear c0 c1 hx hB hB' hlt hlx hq
  rcases hcase with ⟨hle, hxe, rfl⟩ | ⟨hnle, hxe, rfl⟩
  · have HFE : Hid (front 5 z rs = some ⟨dk, dn, dt⟩) := by show _ = _; rw [HFR.out, if_pos hle, ← hxe, HD.out]
    clear hxe hle
    go_wp2_with fail
    refine CO.mono ?_
    rintro e W2 ⟨rfl, hb2⟩
    have hx2 := below_at hb2 hx1
    obtain ⟨_, f0, f1, f2⟩ := blk3 hx2
    obtain ⟨X, HX, c0, c1, c2, hbX⟩ := box_dat hx2 ⟨dk, dn, dt⟩
    have hb3 := hb0.trans ((hb2.mono hb0.size).trans (hbX.mono (Nat.le_refl _)))
    clear hb2 hbX hx1 hx2 d1 CO
    go_wp2_with fail
    try rw [HX]
    exact bodyPost_ret (v := .tuple #[.agg #[.int .i64 dk, .int .i64 dn, .string dt], .bool true]) (by simp [results, Try.results67, go_sem, Try.underlying48, c0, c1, c2]) rfl ⟨⟨dk, dn, dt⟩, by rw [HFE.out]; try rfl, by rw [HFE.out]; intro d' hd; cases hd; try rfl, hb3⟩
  · have HFE : Hid (front 5 z rs = none) := by show _ = _; rw [HFR.out, if_neg hnle]
    clear hxe hnle
    go_wp2_with fail
    refine CO.mono ?_
    rintro e W2 ⟨rfl, hb2⟩
    have hx2 := below_at hb2 hx1
    obtain ⟨_, f0, f1, f2⟩ := blk3 hx2
    obtain ⟨X, HX, c0, c1, c2, hbX⟩ := box_dat hx2 ⟨dk, dn, dt⟩
    have hb3 := hb0.trans ((hb2.mono hb0.size).trans (hbX.mono (Nat.le_refl _)))
    clear hb2 hbX hx1 hx2 d1 CO
    go_wp2_with fail
    try rw [HX]
    exact bodyPost_ret (v := .tuple #[.agg #[.int .i64 dk, .int .i64 dn, .string dt], .bool false]) (by simp [results, Try.results67, go_sem, Try.underlying48, c0, c1, c2]) rfl ⟨⟨dk, dn, dt⟩, by rw [HFE.out]; try rfl, by rw [HFE.out]; intro d' hd; cases hd; try rfl, hb3⟩
end Go.Proofs.Ytdglobonbhkheaa

/-
  The parts: numbers, texts, bytes of a fixed length.
-/
namespace Go.Proofs.Ytdglobonbhkheaa
set_option linter.unusedVariables false
set_option linter.unusedSimpArgs false
open Go.ChangeShapes Go.WideShapes Go.ChangeAt Go.RowKit Go.Deep

set_option maxRecDepth 100000 in
set_option maxHeartbeats 1000000 in
theorem num1_any (d : Dat) (B nb : Nat) (w : World) (hB : w.cell? ⟨B, 0, none⟩ = some (.int .i64 nb)) : Calls Try.prog 64 #[dval d, .pointer (some ⟨B, 0, none⟩)] w fun e w' => e = .returned (.int .i64 nb) ∧ Below w.heap.size w w' := by
  have c0 := cell_later (alloc_below w (.cells #[.int .i64 d.k, .int .i64 d.n, .string d.s] 48)) hB
  unfold dval
  go_enter Try.func64, Try.ntmps64
  go_wp2_with fail
  go_ret
  exact ⟨rfl, alloc_below _ _⟩

set_option maxRecDepth 100000 in
set_option maxHeartbeats 2000000 in
theorem num2_4 (d : Dat) (B B' : Nat) (w : World) (hB : w.cell? ⟨B, 0, none⟩ = some (.int .i64 32)) (hB' : w.cell? ⟨B', 0, none⟩ = some (.int .i64 4)) (base : Nat) (u : Value) (n : Nat) (xs : List Value) (hown : w.ownsRow base 5 1 u n xs) (hbase : base ≤ w.heap.size) (hn : n ≤ 1099511627776) :
    Calls Try.prog 65 #[u, dval d, .pointer (some ⟨B, 0, none⟩), .pointer (some ⟨B', 0, none⟩)] w fun e w' => ∃ u', e = .returned u' ∧ w'.ownsRow base 5 1 u' (n + 4) (xs ++ c8 (upk 8 4 (d.n % 4294967296).toNat)) ∧ Below base w w' := by
  obtain ⟨k0, n0, s0⟩ := d
  unfold dval
  simp only
  have ab := alloc_below w (.cells #[.int .i64 k0, .int .i64 n0, .string s0] 48)
  have c0 := cell_later ab hB
  have c1 := cell_later ab hB'
  have hx := heap_new w (.cells #[.int .i64 k0, .int .i64 n0, .string s0] 48 (0, 0))
  have HO : Hid ((w.alloc (.cells #[.int .i64 k0, .int .i64 n0, .string s0] 48)).ownsRow base 5 1 u n xs) := own_below hown ab
  obtain ⟨i0, hi, hz0, hz1, hz2⟩ := info_parts infoU8
  go_enter Try.func65, Try.ntmps65
  go_wp2_with fail
  generalize w.alloc (.cells #[.int .i64 k0, .int .i64 n0, .string s0] 48) = W0 at *
  have HF : Hid (∀ W, Below W0.heap.size W0 W → W.cell? ⟨B, 0, none⟩ = some (.int .i64 32) ∧ W.cell? ⟨B', 0, none⟩ = some (.int .i64 4) ∧ W.cell? ⟨w.heap.size, 1, none⟩ = some (.int .i64 n0)) := fun W h => ⟨cell_later h c0, cell_later h c1, cell_of_block (below_at h hx) rfl⟩
  have hS0 : Below W0.heap.size W0 W0.drew := (Below.refl _ _).drew
  clear c0 c1 hx hown
  refine wp_region_held_drew (S := fun W => Below W0.heap.size W0 W) (by kernel_rfl) hS0 (fun hHeld => ?_)
  clear hHeld
  generalize W0.drew = D at *
  refine wpAnyH_take (i := 0) (v := ?_) rfl (by kernel_rfl) (by kernel_rfl) (by kernel_rfl) (fun _ _ _ h => h) (Or.inl ⟨by rfl, ?_⟩) (by assumption) ?_
  rotate_left
  · intro w hSw
    have hSx := HF.out w hSw
    (try (obtain ⟨_, _, _, _, _, _, _, _⟩ := hSx))
    (try (obtain ⟨_, _, _, _⟩ := hSx))
    (try (obtain ⟨_, _, _⟩ := hSx))
    (try (obtain ⟨_, _⟩ := hSx))
    go_simp
    (try with_reducible rfl)
  (try simp only [Act.put, List.setIfInBounds_toArray, List.set_cons_zero, List.set_cons_succ])
  refine wpAnyH_take (i := 1) (v := ?_) rfl (by kernel_rfl) (by kernel_rfl) (by kernel_rfl) (fun _ _ _ h => h) (Or.inl ⟨by rfl, ?_⟩) (by assumption) ?_
  rotate_left
  · intro w hSw
    have hSx := HF.out w hSw
    (try (obtain ⟨_, _, _, _, _, _, _, _⟩ := hSx))
    (try (obtain ⟨_, _, _, _⟩ := hSx))
    (try (obtain ⟨_, _, _⟩ := hSx))
    (try (obtain ⟨_, _⟩ := hSx))
    go_simp
    (try with_reducible rfl)
  (try simp only [Act.put, List.setIfInBounds_toArray, List.set_cons_zero, List.set_cons_succ])
  refine wpAnyH_take (i := 2) (v := ?_) rfl (by kernel_rfl) (by kernel_rfl) (by kernel_rfl) (fun _ _ _ h => h) (Or.inl ⟨by rfl, ?_⟩) (by assumption) ?_
  rotate_left
  · intro w hSw
    have hSx := HF.out w hSw
    (try (obtain ⟨_, _, _, _, _, _, _, _⟩ := hSx))
    (try (obtain ⟨_, _, _, _⟩ := hSx))
    (try (obtain ⟨_, _, _⟩ := hSx))
    (try (obtain ⟨_, _⟩ := hSx))
    go_simp
    (try with_reducible rfl)
  (try simp only [Act.put, List.setIfInBounds_toArray, List.set_cons_zero, List.set_cons_succ])
  refine wpAnyH_take (i := 3) (v := ?_) rfl (by kernel_rfl) (by kernel_rfl) (by kernel_rfl) (fun _ _ _ h => h) (Or.inl ⟨by rfl, ?_⟩) (by assumption) ?_
  rotate_left
  · intro w hSw
    have hSx := HF.out w hSw
    (try (obtain ⟨_, _, _, _, _, _, _, _⟩ := hSx))
    (try (obtain ⟨_, _, _, _⟩ := hSx))
    (try (obtain ⟨_, _, _⟩ := hSx))
    (try (obtain ⟨_, _⟩ := hSx))
    go_simp
    (try with_reducible rfl)
  (try simp only [Act.put, List.setIfInBounds_toArray, List.set_cons_zero, List.set_cons_succ])
  refine wpAnyH_take (i := 4) (v := ?_) rfl (by kernel_rfl) (by kernel_rfl) (by kernel_rfl) (fun _ _ _ h => h) (Or.inl ⟨by rfl, ?_⟩) (by assumption) ?_
  rotate_left
  · intro w hSw
    have hSx := HF.out w hSw
    (try (obtain ⟨_, _, _, _, _, _, _, _⟩ := hSx))
    (try (obtain ⟨_, _, _, _⟩ := hSx))
    (try (obtain ⟨_, _, _⟩ := hSx))
    (try (obtain ⟨_, _⟩ := hSx))
    go_simp
    (try with_reducible rfl)
  (try simp only [Act.put, List.setIfInBounds_toArray, List.set_cons_zero, List.set_cons_succ])
  refine wpAnyH_take (i := 5) (v := ?_) rfl (by kernel_rfl) (by kernel_rfl) (by kernel_rfl) (fun _ _ _ h => h) (Or.inl ⟨by rfl, ?_⟩) (by assumption) ?_
  rotate_left
  · intro w hSw
    have hSx := HF.out w hSw
    (try (obtain ⟨_, _, _, _, _, _, _, _⟩ := hSx))
    (try (obtain ⟨_, _, _, _⟩ := hSx))
    (try (obtain ⟨_, _, _⟩ := hSx))
    (try (obtain ⟨_, _⟩ := hSx))
    go_simp
    (try with_reducible rfl)
  (try simp only [Act.put, List.setIfInBounds_toArray, List.set_cons_zero, List.set_cons_succ])
  refine wpAnyH_take (i := 6) (v := ?_) rfl (by kernel_rfl) (by kernel_rfl) (by kernel_rfl) (fun _ _ _ h => h) (Or.inl ⟨by rfl, ?_⟩) (by assumption) ?_
  rotate_left
  · intro w hSw
    have hSx := HF.out w hSw
    (try (obtain ⟨_, _, _, _, _, _, _, _⟩ := hSx))
    (try (obtain ⟨_, _, _, _⟩ := hSx))
    (try (obtain ⟨_, _, _⟩ := hSx))
    (try (obtain ⟨_, _⟩ := hSx))
    go_simp
    (try with_reducible rfl)
  (try simp only [Act.put, List.setIfInBounds_toArray, List.set_cons_zero, List.set_cons_succ])
  refine wpAnyH_take (i := 7) (v := ?_) rfl (by kernel_rfl) (by kernel_rfl) (by kernel_rfl) (fun _ _ _ h => h) (Or.inl ⟨by rfl, ?_⟩) (by assumption) ?_
  rotate_left
  · intro w hSw
    have hSx := HF.out w hSw
    (try (obtain ⟨_, _, _, _, _, _, _, _⟩ := hSx))
    (try (obtain ⟨_, _, _, _⟩ := hSx))
    (try (obtain ⟨_, _, _⟩ := hSx))
    (try (obtain ⟨_, _⟩ := hSx))
    go_simp
    (try with_reducible rfl)
  (try simp only [Act.put, List.setIfInBounds_toArray, List.set_cons_zero, List.set_cons_succ])
  refine wpAnyH_ready (rs := [8]) (by kernel_rfl) (by simp) ?_
  refine AllReadyH.cons rfl (fun K hK => ?_) AllReadyH.nil
  go_simp
  have hlt : (n0 % 4294967296).toNat < 2 ^ (8 * 4) := by
    have : (2 : Nat) ^ (8 * 4) = 4294967296 := by decide
    omega
  have ev : IntKind.u64.wrap (IntKind.u64.wrap n0 * 4294967296) / 4294967296 = (((n0 % 4294967296).toNat : Nat) : Int) := by simp only [IntKind.wrap_u64]; omega
  rw [ev]
  refine (little_nat (n0 % 4294967296).toNat 4 (by omega) hlt D).mono ?_
  clear ev hlt
  obtain ⟨N, HN⟩ : ∃ N : Nat, Hid ((n0 % 4294967296).toNat = N) := ⟨_, rfl⟩
  rw [HN.out]
  rintro e W1 ⟨v, rfl, hv, hb1⟩
  obtain ⟨va, vc, rfl⟩ := own_sl hv
  have hS1 : Below W0.heap.size W0 W1 := hS0.trans (hb1.mono hS0.size)
  have hsz := hS1.size
  have habs := ab.size
  have HV : Hid (Src W1 va 4 vc (c8 (upk 8 4 N))) := (src_own hv).2
  have HO1 : Hid (W1.ownsRow base 5 1 u n xs) := own_below HO.out hS1
  have hbb : Below base w W1 := (ab.mono hbase).trans (hS1.mono (Nat.le_trans hbase habs))
  clear hv hb1 HO
  go_simp
  refine hK.out _ _ hS1 (fun _ => ?_)
  clear hK K
  (try simp only [Act.put, List.setIfInBounds_toArray, List.set_cons_zero, List.set_cons_succ])
  refine wpAnyH_take (i := 9) (v := ?_) rfl (by kernel_rfl) (by kernel_rfl) (by kernel_rfl) (fun _ _ _ h => h) (Or.inl ⟨by rfl, ?_⟩) (by assumption) ?_
  rotate_left
  · intro w hSw
    have hSx := HF.out w hSw
    (try (obtain ⟨_, _, _, _, _, _, _, _⟩ := hSx))
    (try (obtain ⟨_, _, _, _⟩ := hSx))
    (try (obtain ⟨_, _, _⟩ := hSx))
    (try (obtain ⟨_, _⟩ := hSx))
    go_simp
    (try with_reducible rfl)
  (try simp only [Act.put, List.setIfInBounds_toArray, List.set_cons_zero, List.set_cons_succ])
  refine wpAnyH_take (i := 10) (v := ?_) rfl (by kernel_rfl) (by kernel_rfl) (by kernel_rfl) (fun _ _ _ h => h) (Or.inl ⟨by rfl, ?_⟩) (by assumption) ?_
  rotate_left
  · intro w hSw
    have hSx := HF.out w hSw
    (try (obtain ⟨_, _, _, _, _, _, _, _⟩ := hSx))
    (try (obtain ⟨_, _, _, _⟩ := hSx))
    (try (obtain ⟨_, _, _⟩ := hSx))
    (try (obtain ⟨_, _⟩ := hSx))
    go_simp
    (try with_reducible rfl)
  (try simp only [Act.put, List.setIfInBounds_toArray, List.set_cons_zero, List.set_cons_succ])
  refine wpAnyH_take (i := 11) (v := ?_) rfl (by kernel_rfl) (by kernel_rfl) (by kernel_rfl) (fun _ _ _ h => h) (Or.inl ⟨by rfl, ?_⟩) (by assumption) ?_
  rotate_left
  · intro w hSw
    have hSx := HF.out w hSw
    (try (obtain ⟨_, _, _, _, _, _, _, _⟩ := hSx))
    (try (obtain ⟨_, _, _, _⟩ := hSx))
    (try (obtain ⟨_, _, _⟩ := hSx))
    (try (obtain ⟨_, _⟩ := hSx))
    go_simp
    (try with_reducible rfl)
  (try simp only [Act.put, List.setIfInBounds_toArray, List.set_cons_zero, List.set_cons_succ])
  refine wpAnyH_take (i := 12) (v := ?_) rfl (by kernel_rfl) (by kernel_rfl) (by kernel_rfl) (fun _ _ _ h => h) (Or.inl ⟨by rfl, ?_⟩) (by assumption) ?_
  rotate_left
  · intro w hSw
    have hSx := HF.out w hSw
    (try (obtain ⟨_, _, _, _, _, _, _, _⟩ := hSx))
    (try (obtain ⟨_, _, _, _⟩ := hSx))
    (try (obtain ⟨_, _, _⟩ := hSx))
    (try (obtain ⟨_, _⟩ := hSx))
    go_simp
    (try with_reducible rfl)
  (try simp only [Act.put, List.setIfInBounds_toArray, List.set_cons_zero, List.set_cons_succ])
  refine wpAnyH_take (i := 13) (v := ?_) rfl (by kernel_rfl) (by kernel_rfl) (by kernel_rfl) (fun _ _ _ h => h) (Or.inl ⟨by rfl, ?_⟩) (by assumption) ?_
  rotate_left
  · intro w hSw
    have hSx := HF.out w hSw
    (try (obtain ⟨_, _, _, _, _, _, _, _⟩ := hSx))
    (try (obtain ⟨_, _, _, _⟩ := hSx))
    (try (obtain ⟨_, _, _⟩ := hSx))
    (try (obtain ⟨_, _⟩ := hSx))
    go_simp
    (try with_reducible rfl)
  (try simp only [Act.put, List.setIfInBounds_toArray, List.set_cons_zero, List.set_cons_succ])
  refine wpAnyH_done (by kernel_rfl) ?_ _
  go_wp2_with (at_builtin; refine wpList_append_src rfl (.tmp 21) (.tmp 22) 27 rfl base 5 i0 (.int .u8 0) 1 Try.underlying27 hi hz0 hz1 hz2 rfl _ _ _ rfl HO1.out va 4 vc (c8 (upk 8 4 N)) rfl HV.out (c8_one _) (by unfold maxLen; omega) (by omega) (by omega) ?_; intro v1 W2 hown1 hb2)
  go_ret
  exact ⟨_, rfl, by rw [HN.out]; exact hown1, hbb.trans hb2⟩
set_option maxRecDepth 100000 in
set_option maxHeartbeats 2000000 in
theorem num2_8 (d : Dat) (B B' : Nat) (w : World) (hB : w.cell? ⟨B, 0, none⟩ = some (.int .i64 0)) (hB' : w.cell? ⟨B', 0, none⟩ = some (.int .i64 8)) (base : Nat) (u : Value) (n : Nat) (xs : List Value) (hown : w.ownsRow base 5 1 u n xs) (hbase : base ≤ w.heap.size) (hn : n ≤ 1099511627776) :
    Calls Try.prog 65 #[u, dval d, .pointer (some ⟨B, 0, none⟩), .pointer (some ⟨B', 0, none⟩)] w fun e w' => ∃ u', e = .returned u' ∧ w'.ownsRow base 5 1 u' (n + 8) (xs ++ c8 (upk 8 8 (d.n % 18446744073709551616).toNat)) ∧ Below base w w' := by
  obtain ⟨k0, n0, s0⟩ := d
  unfold dval
  simp only
  have ab := alloc_below w (.cells #[.int .i64 k0, .int .i64 n0, .string s0] 48)
  have c0 := cell_later ab hB
  have c1 := cell_later ab hB'
  have hx := heap_new w (.cells #[.int .i64 k0, .int .i64 n0, .string s0] 48 (0, 0))
  have HO : Hid ((w.alloc (.cells #[.int .i64 k0, .int .i64 n0, .string s0] 48)).ownsRow base 5 1 u n xs) := own_below hown ab
  obtain ⟨i0, hi, hz0, hz1, hz2⟩ := info_parts infoU8
  go_enter Try.func65, Try.ntmps65
  go_wp2_with fail
  generalize w.alloc (.cells #[.int .i64 k0, .int .i64 n0, .string s0] 48) = W0 at *
  have HF : Hid (∀ W, Below W0.heap.size W0 W → W.cell? ⟨B, 0, none⟩ = some (.int .i64 0) ∧ W.cell? ⟨B', 0, none⟩ = some (.int .i64 8) ∧ W.cell? ⟨w.heap.size, 1, none⟩ = some (.int .i64 n0)) := fun W h => ⟨cell_later h c0, cell_later h c1, cell_of_block (below_at h hx) rfl⟩
  have hS0 : Below W0.heap.size W0 W0.drew := (Below.refl _ _).drew
  clear c0 c1 hx hown
  refine wp_region_held_drew (S := fun W => Below W0.heap.size W0 W) (by kernel_rfl) hS0 (fun hHeld => ?_)
  clear hHeld
  generalize W0.drew = D at *
  refine wpAnyH_take (i := 0) (v := ?_) rfl (by kernel_rfl) (by kernel_rfl) (by kernel_rfl) (fun _ _ _ h => h) (Or.inl ⟨by rfl, ?_⟩) (by assumption) ?_
  rotate_left
  · intro w hSw
    have hSx := HF.out w hSw
    (try (obtain ⟨_, _, _, _, _, _, _, _⟩ := hSx))
    (try (obtain ⟨_, _, _, _⟩ := hSx))
    (try (obtain ⟨_, _, _⟩ := hSx))
    (try (obtain ⟨_, _⟩ := hSx))
    go_simp
    (try with_reducible rfl)
  (try simp only [Act.put, List.setIfInBounds_toArray, List.set_cons_zero, List.set_cons_succ])
  refine wpAnyH_take (i := 1) (v := ?_) rfl (by kernel_rfl) (by kernel_rfl) (by kernel_rfl) (fun _ _ _ h => h) (Or.inl ⟨by rfl, ?_⟩) (by assumption) ?_
  rotate_left
  · intro w hSw
    have hSx := HF.out w hSw
    (try (obtain ⟨_, _, _, _, _, _, _, _⟩ := hSx))
    (try (obtain ⟨_, _, _, _⟩ := hSx))
    (try (obtain ⟨_, _, _⟩ := hSx))
    (try (obtain ⟨_, _⟩ := hSx))
    go_simp
    (try with_reducible rfl)
  (try simp only [Act.put, List.setIfInBounds_toArray, List.set_cons_zero, List.set_cons_succ])
  refine wpAnyH_take (i := 2) (v := ?_) rfl (by kernel_rfl) (by kernel_rfl) (by kernel_rfl) (fun _ _ _ h => h) (Or.inl ⟨by rfl, ?_⟩) (by assumption) ?_
  rotate_left
  · intro w hSw
    have hSx := HF.out w hSw
    (try (obtain ⟨_, _, _, _, _, _, _, _⟩ := hSx))
    (try (obtain ⟨_, _, _, _⟩ := hSx))
    (try (obtain ⟨_, _, _⟩ := hSx))
    (try (obtain ⟨_, _⟩ := hSx))
    go_simp
    (try with_reducible rfl)
  (try simp only [Act.put, List.setIfInBounds_toArray, List.set_cons_zero, List.set_cons_succ])
  refine wpAnyH_take (i := 3) (v := ?_) rfl (by kernel_rfl) (by kernel_rfl) (by kernel_rfl) (fun _ _ _ h => h) (Or.inl ⟨by rfl, ?_⟩) (by assumption) ?_
  rotate_left
  · intro w hSw
    have hSx := HF.out w hSw
    (try (obtain ⟨_, _, _, _, _, _, _, _⟩ := hSx))
    (try (obtain ⟨_, _, _, _⟩ := hSx))
    (try (obtain ⟨_, _, _⟩ := hSx))
    (try (obtain ⟨_, _⟩ := hSx))
    go_simp
    (try with_reducible rfl)
  (try simp only [Act.put, List.setIfInBounds_toArray, List.set_cons_zero, List.set_cons_succ])
  refine wpAnyH_take (i := 4) (v := ?_) rfl (by kernel_rfl) (by kernel_rfl) (by kernel_rfl) (fun _ _ _ h => h) (Or.inl ⟨by rfl, ?_⟩) (by assumption) ?_
  rotate_left
  · intro w hSw
    have hSx := HF.out w hSw
    (try (obtain ⟨_, _, _, _, _, _, _, _⟩ := hSx))
    (try (obtain ⟨_, _, _, _⟩ := hSx))
    (try (obtain ⟨_, _, _⟩ := hSx))
    (try (obtain ⟨_, _⟩ := hSx))
    go_simp
    (try with_reducible rfl)
  (try simp only [Act.put, List.setIfInBounds_toArray, List.set_cons_zero, List.set_cons_succ])
  refine wpAnyH_take (i := 5) (v := ?_) rfl (by kernel_rfl) (by kernel_rfl) (by kernel_rfl) (fun _ _ _ h => h) (Or.inl ⟨by rfl, ?_⟩) (by assumption) ?_
  rotate_left
  · intro w hSw
    have hSx := HF.out w hSw
    (try (obtain ⟨_, _, _, _, _, _, _, _⟩ := hSx))
    (try (obtain ⟨_, _, _, _⟩ := hSx))
    (try (obtain ⟨_, _, _⟩ := hSx))
    (try (obtain ⟨_, _⟩ := hSx))
    go_simp
    (try with_reducible rfl)
  (try simp only [Act.put, List.setIfInBounds_toArray, List.set_cons_zero, List.set_cons_succ])
  refine wpAnyH_take (i := 6) (v := ?_) rfl (by kernel_rfl) (by kernel_rfl) (by kernel_rfl) (fun _ _ _ h => h) (Or.inl ⟨by rfl, ?_⟩) (by assumption) ?_
  rotate_left
  · intro w hSw
    have hSx := HF.out w hSw
    (try (obtain ⟨_, _, _, _, _, _, _, _⟩ := hSx))
    (try (obtain ⟨_, _, _, _⟩ := hSx))
    (try (obtain ⟨_, _, _⟩ := hSx))
    (try (obtain ⟨_, _⟩ := hSx))
    go_simp
    (try with_reducible rfl)
  (try simp only [Act.put, List.setIfInBounds_toArray, List.set_cons_zero, List.set_cons_succ])
  refine wpAnyH_take (i := 7) (v := ?_) rfl (by kernel_rfl) (by kernel_rfl) (by kernel_rfl) (fun _ _ _ h => h) (Or.inl ⟨by rfl, ?_⟩) (by assumption) ?_
  rotate_left
  · intro w hSw
    have hSx := HF.out w hSw
    (try (obtain ⟨_, _, _, _, _, _, _, _⟩ := hSx))
    (try (obtain ⟨_, _, _, _⟩ := hSx))
    (try (obtain ⟨_, _, _⟩ := hSx))
    (try (obtain ⟨_, _⟩ := hSx))
    go_simp
    (try with_reducible rfl)
  (try simp only [Act.put, List.setIfInBounds_toArray, List.set_cons_zero, List.set_cons_succ])
  refine wpAnyH_ready (rs := [8]) (by kernel_rfl) (by simp) ?_
  refine AllReadyH.cons rfl (fun K hK => ?_) AllReadyH.nil
  go_simp
  have hlt : (n0 % 18446744073709551616).toNat < 2 ^ (8 * 8) := by
    have : (2 : Nat) ^ (8 * 8) = 18446744073709551616 := by decide
    omega
  have ev : IntKind.u64.wrap (IntKind.u64.wrap n0) = (((n0 % 18446744073709551616).toNat : Nat) : Int) := by simp only [IntKind.wrap_u64]; omega
  rw [ev]
  refine (little_nat (n0 % 18446744073709551616).toNat 8 (by omega) hlt D).mono ?_
  clear ev hlt
  obtain ⟨N, HN⟩ : ∃ N : Nat, Hid ((n0 % 18446744073709551616).toNat = N) := ⟨_, rfl⟩
  rw [HN.out]
  rintro e W1 ⟨v, rfl, hv, hb1⟩
  obtain ⟨va, vc, rfl⟩ := own_sl hv
  have hS1 : Below W0.heap.size W0 W1 := hS0.trans (hb1.mono hS0.size)
  have hsz := hS1.size
  have habs := ab.size
  have HV : Hid (Src W1 va 8 vc (c8 (upk 8 8 N))) := (src_own hv).2
  have HO1 : Hid (W1.ownsRow base 5 1 u n xs) := own_below HO.out hS1
  have hbb : Below base w W1 := (ab.mono hbase).trans (hS1.mono (Nat.le_trans hbase habs))
  clear hv hb1 HO
  go_simp
  refine hK.out _ _ hS1 (fun _ => ?_)
  clear hK K
  (try simp only [Act.put, List.setIfInBounds_toArray, List.set_cons_zero, List.set_cons_succ])
  refine wpAnyH_take (i := 9) (v := ?_) rfl (by kernel_rfl) (by kernel_rfl) (by kernel_rfl) (fun _ _ _ h => h) (Or.inl ⟨by rfl, ?_⟩) (by assumption) ?_
  rotate_left
  · intro w hSw
    have hSx := HF.out w hSw
    (try (obtain ⟨_, _, _, _, _, _, _, _⟩ := hSx))
    (try (obtain ⟨_, _, _, _⟩ := hSx))
    (try (obtain ⟨_, _, _⟩ := hSx))
    (try (obtain ⟨_, _⟩ := hSx))
    go_simp
    (try with_reducible rfl)
  (try simp only [Act.put, List.setIfInBounds_toArray, List.set_cons_zero, List.set_cons_succ])
  refine wpAnyH_take (i := 10) (v := ?_) rfl (by kernel_rfl) (by kernel_rfl) (by kernel_rfl) (fun _ _ _ h => h) (Or.inl ⟨by rfl, ?_⟩) (by assumption) ?_
  rotate_left
  · intro w hSw
    have hSx := HF.out w hSw
    (try (obtain ⟨_, _, _, _, _, _, _, _⟩ := hSx))
    (try (obtain ⟨_, _, _, _⟩ := hSx))
    (try (obtain ⟨_, _, _⟩ := hSx))
    (try (obtain ⟨_, _⟩ := hSx))
    go_simp
    (try with_reducible rfl)
  (try simp only [Act.put, List.setIfInBounds_toArray, List.set_cons_zero, List.set_cons_succ])
  refine wpAnyH_take (i := 11) (v := ?_) rfl (by kernel_rfl) (by kernel_rfl) (by kernel_rfl) (fun _ _ _ h => h) (Or.inl ⟨by rfl, ?_⟩) (by assumption) ?_
  rotate_left
  · intro w hSw
    have hSx := HF.out w hSw
    (try (obtain ⟨_, _, _, _, _, _, _, _⟩ := hSx))
    (try (obtain ⟨_, _, _, _⟩ := hSx))
    (try (obtain ⟨_, _, _⟩ := hSx))
    (try (obtain ⟨_, _⟩ := hSx))
    go_simp
    (try with_reducible rfl)
  (try simp only [Act.put, List.setIfInBounds_toArray, List.set_cons_zero, List.set_cons_succ])
  refine wpAnyH_take (i := 12) (v := ?_) rfl (by kernel_rfl) (by kernel_rfl) (by kernel_rfl) (fun _ _ _ h => h) (Or.inl ⟨by rfl, ?_⟩) (by assumption) ?_
  rotate_left
  · intro w hSw
    have hSx := HF.out w hSw
    (try (obtain ⟨_, _, _, _, _, _, _, _⟩ := hSx))
    (try (obtain ⟨_, _, _, _⟩ := hSx))
    (try (obtain ⟨_, _, _⟩ := hSx))
    (try (obtain ⟨_, _⟩ := hSx))
    go_simp
    (try with_reducible rfl)
  (try simp only [Act.put, List.setIfInBounds_toArray, List.set_cons_zero, List.set_cons_succ])
  refine wpAnyH_take (i := 13) (v := ?_) rfl (by kernel_rfl) (by kernel_rfl) (by kernel_rfl) (fun _ _ _ h => h) (Or.inl ⟨by rfl, ?_⟩) (by assumption) ?_
  rotate_left
  · intro w hSw
    have hSx := HF.out w hSw
    (try (obtain ⟨_, _, _, _, _, _, _, _⟩ := hSx))
    (try (obtain ⟨_, _, _, _⟩ := hSx))
    (try (obtain ⟨_, _, _⟩ := hSx))
    (try (obtain ⟨_, _⟩ := hSx))
    go_simp
    (try with_reducible rfl)
  (try simp only [Act.put, List.setIfInBounds_toArray, List.set_cons_zero, List.set_cons_succ])
  refine wpAnyH_done (by kernel_rfl) ?_ _
  go_wp2_with (at_builtin; refine wpList_append_src rfl (.tmp 21) (.tmp 22) 27 rfl base 5 i0 (.int .u8 0) 1 Try.underlying27 hi hz0 hz1 hz2 rfl _ _ _ rfl HO1.out va 8 vc (c8 (upk 8 8 N)) rfl HV.out (c8_one _) (by unfold maxLen; omega) (by omega) (by omega) ?_; intro v1 W2 hown1 hb2)
  go_ret
  exact ⟨_, rfl, by rw [HN.out]; exact hown1, hbb.trans hb2⟩
end Go.Proofs.Ytdglobonbhkheaa

/-
  The parts: texts, and bytes of a fixed length.
-/
namespace Go.Proofs.Ytdglobonbhkheaa
set_option linter.unusedVariables false
set_option linter.unusedSimpArgs false
open Go.ChangeShapes Go.WideShapes Go.ChangeAt Go.RowKit Go.Deep

set_option maxRecDepth 100000 in
set_option maxHeartbeats 1000000 in
theorem cut_no {w : World} {a : Option Addr} {len cap : Nat} {bs : List Nat} (h : Byt w a len cap bs) (p x : Nat) (hp : p ≤ len) (hx : x ≤ 18446744073709551615) (hn : ¬ x ≤ len - p) :
    Calls Try.prog 74 #[.slice a len cap, .int .i64 p, .int .u64 x] w fun e w' => e = .returned (.tuple #[.string { data := #[] }, .bool false]) ∧ w' = w := by
  have hl := h.most
  have hcap := h.room
  have hp' : (p : Int) ≤ (len : Int) := by omega
  have hl' : (len : Int) ≤ 1048576 := by omega
  have hn' : (len : Int) - (p : Int) < (x : Int) := by omega
  have hr : IntKind.u64.wrap ((len : Int) - (p : Int)) = (len : Int) - (p : Int) := by rw [IntKind.wrap_u64]; omega
  clear h hn hp hl hx
  go_enter Try.func74, Try.ntmps74
  go_wp2_with fail
  go_ret2
  exact ⟨rfl, rfl⟩
set_option maxRecDepth 100000 in
set_option maxHeartbeats 1000000 in
theorem cut_yes {w : World} {a : Option Addr} {len cap : Nat} {bs : List Nat} (h : Byt w a len cap bs) (p x : Nat) (hp : p ≤ len) (hn : x ≤ len - p) :
    Calls Try.prog 74 #[.slice a len cap, .int .i64 p, .int .u64 x] w fun e w' => e = .returned (.tuple #[.string (txt ((bs.drop p).take x)), .bool true]) ∧ w' = w := by
  have hl := h.most
  have hcap := h.room
  have hp' : (p : Int) ≤ (len : Int) := by omega
  have hl' : (len : Int) ≤ 1048576 := by omega
  have hn' : (x : Int) ≤ (len : Int) - (p : Int) := by omega
  have hr : IntKind.u64.wrap ((len : Int) - (p : Int)) = (len : Int) - (p : Int) := by rw [IntKind.wrap_u64]; omega
  have hc' : (len : Int) ≤ (cap : Int) := by omega
  rcases h.src.2 with ⟨rfl, rfl, rfl⟩ | ⟨⟨g, off, sp⟩, rfl, hcells⟩
  · have e : (bs.drop p).take x = [] := by
      have := h.len
      rw [List.length_eq_zero_iff.1 this]
      simp
    rw [e]
    have hp0 : p = 0 := by omega
    have hx0 : x = 0 := by omega
    subst hp0 hx0
    have hcv := run_convert_bytes_nil w 27 5 Try.underlying27 Try.underlying5 0 0 9 Try.underlying9
    clear h hp hn hl hp' hl' hn' hr hc'
    go_enter Try.func74, Try.ntmps74
    go_wp2_with fail
    go_ret2
    exact ⟨rfl, rfl⟩
  · by_cases hl0 : len = 0
    · subst hl0
      have hp0 : p = 0 := by omega
      have hx0 : x = 0 := by omega
      subst hp0 hx0
      have e : (bs.drop 0).take 0 = [] := by simp
      rw [e]
      have hcv := conv_empty w ⟨g, off, sp⟩ cap
      clear h hp hn hl hp' hl' hn' hr hc' hcells
      go_enter Try.func74, Try.ntmps74
      go_wp2_with fail
      go_ret2
      exact ⟨rfl, rfl⟩
    · obtain ⟨g', off', e', hc0⟩ := src_at h.src (j := 0) (by omega)
      cases e'
      have HS := src_drop h.src hp
      have HT := src_take HS hn
      have hcv := str_src HT
      have HX : Hid (txt ((bs.drop p).take x) = strOfNums (((bs.drop p).take x).map fun n : Nat => (n : Int))) := rfl
      by_cases hcq : cap = p
      · have hx0 : x = 0 := by omega
        subst hcq hx0
        have e : (bs.drop cap).take 0 = [] := by simp
        rw [e]
        have hcv2 := conv_empty w ⟨g, off, none⟩ 0
        have hlc : len = cap := by omega
        subst hlc
        clear h hp hn hl hcells HS HT hc0 hl0 hcv HX e
        go_enter Try.func74, Try.ntmps74
        go_wp2_with fail
        go_ret2
        exact ⟨rfl, rfl⟩
      have hcp : ((cap - p : Nat) : Int) = (cap : Int) - (p : Int) := by omega
      clear h hp hn hl hcells HS HT hc0 hl0
      go_enter Try.func74, Try.ntmps74
      go_wp2_with fail
      go_ret2
      exact ⟨by rw [HX.out, List.map_take, List.map_drop]; rfl, rfl⟩
end Go.Proofs.Ytdglobonbhkheaa

/-
  The parts: texts, and bytes of a fixed length.
-/
namespace Go.Proofs.Ytdglobonbhkheaa
set_option linter.unusedVariables false
set_option linter.unusedSimpArgs false
open Go.ChangeShapes Go.WideShapes Go.ChangeAt Go.RowKit Go.Deep

set_option maxRecDepth 100000 in
set_option maxHeartbeats 2000000 in
theorem text1_any (d : Dat) (hs : d.s.size ≤ 1048576) (w : World) : Calls Try.prog 71 #[dval d] w fun e w' => e = .returned (.int .i64 ((4 + d.s.size : Nat) : Int)) ∧ Below w.heap.size w w' := by
  obtain ⟨k0, n0, s0⟩ := d
  have hs' : (s0.size : Int) ≤ 1048576 := by simp only at hs; omega
  unfold dval
  simp only
  clear hs
  go_enter Try.func71, Try.ntmps71
  go_wp2_with fail
  go_ret
  exact ⟨by simp, alloc_below _ _⟩
set_option maxRecDepth 100000 in
set_option maxHeartbeats 2000000 in
theorem fix1_any (d : Dat) (B : Nat) (z : Int) (w : World) (hB : w.cell? ⟨B, 0, none⟩ = some (.int .i64 z)) : Calls Try.prog 76 #[dval d, .pointer (some ⟨B, 0, none⟩)] w fun e w' => e = .returned (.int .i64 z) ∧ Below w.heap.size w w' := by
  have c0 := cell_later (alloc_below w (.cells #[.int .i64 d.k, .int .i64 d.n, .string d.s] 48)) hB
  unfold dval
  go_enter Try.func76, Try.ntmps76
  go_wp2_with fail
  go_ret
  exact ⟨rfl, alloc_below _ _⟩
set_option maxRecDepth 100000 in
set_option maxHeartbeats 2000000 in
theorem fix2_any (d : Dat) (w : World) (base : Nat) (u : Value) (n : Nat) (xs : List Value) (hown : w.ownsRow base 5 1 u n xs) (hbase : base ≤ w.heap.size) (hn : n ≤ 1099511627776) (hs : d.s.size ≤ 1048576) :
    Calls Try.prog 77 #[u, dval d] w fun e w' => ∃ u', e = .returned u' ∧ w'.ownsRow base 5 1 u' (n + (tb d.s).length) (xs ++ c8 (tb d.s)) ∧ Below base w w' := by
  obtain ⟨k0, n0, s0⟩ := d
  unfold dval
  simp only at hs ⊢
  have ab := alloc_below w (.cells #[.int .i64 k0, .int .i64 n0, .string s0] 48 (0, 0))
  have HO : Hid ((w.alloc (.cells #[.int .i64 k0, .int .i64 n0, .string s0] 48 (0, 0))).ownsRow base 5 1 u n xs) := own_below hown ab
  obtain ⟨i0, hi, hz0, hz1, hz2⟩ := info_parts infoU8
  have hsz : base ≤ (w.alloc (.cells #[.int .i64 k0, .int .i64 n0, .string s0] 48 (0, 0))).heap.size := by simp; omega
  go_enter Try.func77, Try.ntmps77
  go_wp2_with (at_builtin; refine Lib.wpList_append_own_string _ rfl (.tmp 5) (.tmp 7) 27 9 rfl base 5 i0 Try.underlying27 Try.underlying9 hi hz0 hz1 hz2 _ _ _ rfl HO.out s0 rfl (by unfold maxLen; omega) (by omega) hsz ?_; intro v1 W2 hown1 hg1 _)
  go_ret
  rw [strCells_tb, ← tb_len] at hown1
  exact ⟨_, rfl, hown1, (ab.mono hbase).trans ((Below.refl base _).grown hg1 hsz (fun k hk => (HO.out.lt k hk).1))⟩
set_option maxRecDepth 100000 in
set_option maxHeartbeats 2000000 in
theorem text2_any (d : Dat) (w : World) (base : Nat) (u : Value) (n : Nat) (xs : List Value) (hown : w.ownsRow base 5 1 u n xs) (hbase : base ≤ w.heap.size) (hn : n ≤ 1099511627776) (hs : d.s.size ≤ 1048576) :
    Calls Try.prog 72 #[u, dval d] w fun e w' => ∃ u', e = .returned u' ∧ w'.ownsRow base 5 1 u' (n + (upk 8 4 d.s.size ++ tb d.s).length) (xs ++ c8 (upk 8 4 d.s.size ++ tb d.s)) ∧ Below base w w' := by
  obtain ⟨k0, n0, s0⟩ := d
  unfold dval
  simp only at hs ⊢
  have ab := alloc_below w (.cells #[.int .i64 k0, .int .i64 n0, .string s0] 48 (0, 0))
  have hx := heap_new w (.cells #[.int .i64 k0, .int .i64 n0, .string s0] 48 (0, 0))
  have HO : Hid ((w.alloc (.cells #[.int .i64 k0, .int .i64 n0, .string s0] 48 (0, 0))).ownsRow base 5 1 u n xs) := own_below hown ab
  have HU : Hid (∀ k, u.ownBlock = some k → k < w.heap.size) := fun k hk => (hown.lt k hk).2
  have HWR : Hid (IntKind.u64.wrap (s0.size : Int) = ((s0.size : Nat) : Int)) := by show _ = _; rw [IntKind.wrap_u64]; omega
  have hlt : s0.size < 2 ^ (8 * 4) := by
    have : (2 : Nat) ^ (8 * 4) = 4294967296 := by decide
    omega
  have LN := fun W => little_nat s0.size 4 (by omega) hlt W
  have HS : Hid (s0.size ≤ 1048576) := hs
  clear hlt hown hs
  obtain ⟨N, HN⟩ : ∃ N : Nat, Hid (s0.size = N) := ⟨_, rfl⟩
  rw [HN.out] at LN
  go_enter Try.func72, Try.ntmps72
  go_wp2_with fail
  generalize w.alloc (.cells #[.int .i64 k0, .int .i64 n0, .string s0] 48 (0, 0)) = W0 at *
  rw [HWR.out, HN.out]
  refine (LN W0).mono ?_
  rintro e W1 ⟨v, rfl, hv, hb1⟩
  obtain ⟨g, vc, rfl⟩ := own_some hv (by omega)
  have hx1 := below_at hb1 hx
  have hb01 := ab.trans (hb1.mono ab.size)
  have hsz := hb01.size
  have HO1 : Hid (W1.drew.ownsRow base 5 1 u n xs) := own_below (own_below HO.out hb1) (Below.refl _ _).drew
  have HV : Hid (Src W1.drew (some ⟨g, 0, none⟩) 4 vc (c8 (upk 8 4 N))) := (src_own hv).2.later (Below.refl _ _).drew
  have s0' : W1.drew.cell? ⟨w.heap.size, 2, none⟩ = some (.string s0) := cell_of_block (below_at (Below.refl _ W1).drew hx1) rfl
  have hbb : Below base w W1.drew := (hb01.mono hbase).trans (Below.refl _ _).drew
  clear hv hb1 HO LN hx hx1 ab hb01
  go_wp2_with fail
  refine wp_region_held_drew (S := fun W => W.cell? ⟨w.heap.size, 2, none⟩ = some (.string s0)) (by kernel_rfl) s0' (fun hHeld => ?_)
  clear hHeld
  have hbD : base ≤ W1.drew.heap.size := by simp; omega
  generalize W1.drew = D at *
  refine wpAnyH_take (i := 0) (v := ?_) rfl (by kernel_rfl) (by kernel_rfl) (by kernel_rfl) (fun _ _ _ h => h) (Or.inl ⟨by rfl, ?_⟩) (by assumption) ?_
  rotate_left
  · intro w hSw
    (try dsimp only at hSw)
    (try (obtain ⟨_, _, _, _, _, _, _⟩ := hSw))
    (try (obtain ⟨_, _⟩ := hSw))
    go_simp
    (try with_reducible rfl)
  (try simp only [Act.put, List.setIfInBounds_toArray, List.set_cons_zero, List.set_cons_succ])
  refine wpAnyH_take (i := 1) (v := ?_) rfl (by kernel_rfl) (by kernel_rfl) (by kernel_rfl) (fun _ _ _ h => h) (Or.inl ⟨by rfl, ?_⟩) (by assumption) ?_
  rotate_left
  · intro w hSw
    (try dsimp only at hSw)
    (try (obtain ⟨_, _, _, _, _, _, _⟩ := hSw))
    (try (obtain ⟨_, _⟩ := hSw))
    go_simp
    (try with_reducible rfl)
  (try simp only [Act.put, List.setIfInBounds_toArray, List.set_cons_zero, List.set_cons_succ])
  refine wpAnyH_take (i := 3) (v := ?_) rfl (by kernel_rfl) (by kernel_rfl) (by kernel_rfl) (fun _ _ _ h => h) (Or.inl ⟨by rfl, ?_⟩) (by assumption) ?_
  rotate_left
  · intro w hSw
    (try dsimp only at hSw)
    (try (obtain ⟨_, _, _, _, _, _, _⟩ := hSw))
    (try (obtain ⟨_, _⟩ := hSw))
    go_simp
    (try with_reducible rfl)
  (try simp only [Act.put, List.setIfInBounds_toArray, List.set_cons_zero, List.set_cons_succ])
  refine wpAnyH_take (i := 4) (v := ?_) rfl (by kernel_rfl) (by kernel_rfl) (by kernel_rfl) (fun _ _ _ h => h) (Or.inl ⟨by rfl, ?_⟩) (by assumption) ?_
  rotate_left
  · intro w hSw
    (try dsimp only at hSw)
    (try (obtain ⟨_, _, _, _, _, _, _⟩ := hSw))
    (try (obtain ⟨_, _⟩ := hSw))
    go_simp
    (try with_reducible rfl)
  (try simp only [Act.put, List.setIfInBounds_toArray, List.set_cons_zero, List.set_cons_succ])
  obtain ⟨v2, W2, hr2, ho2, hg2, hb2, hf2⟩ := run_app HO1.out HV.out hbD (by omega)
  have hbs : w.heap.size < D.heap.size := World.block_lt_of_cell? _ _ s0'
  have s2 : W2.cell? ⟨w.heap.size, 2, none⟩ = some (.string s0) := hg2.cell s0' (by intro e; have := HU.out _ e.symm; simp at this)
  obtain ⟨v3, W3, hr3, ho3, hg3, hb3⟩ := run_app_str ho2 s0 (Nat.le_trans hbD hb2.size) (by have := HS.out; omega)
  have s3 : W3.cell? ⟨w.heap.size, 2, none⟩ = some (.string s0) := hg3.cell s2 (by
    intro e
    rcases hf2 _ e.symm with h | h
    · have := HU.out _ h; simp at this
    · simp at h; omega)
  have HF : Hid (∃ u', v3 = u' ∧ W3.ownsRow base 5 1 u' (n + (upk 8 4 s0.size ++ tb s0).length) (xs ++ c8 (upk 8 4 s0.size ++ tb s0)) ∧ Below base w W3) := by
    refine ⟨v3, rfl, ?_, hbb.trans (hb2.trans hb3)⟩
    rw [List.length_append, upk_len, tb_len, ← Nat.add_assoc, c8_append, ← List.append_assoc]
    rw [HN.out] at ho3 ⊢
    exact ho3
  clear ho2 hg2 hb2 hf2 hbs ho3 hg3 hb3 s0'
  refine wpAnyH_ready (rs := [2]) (by kernel_rfl) (by simp) ?_
  refine AllReadyH.cons rfl (fun K hK => ?_) AllReadyH.nil
  refine ready_append2 rfl (.tmp 15) (.tmp 16) 27 27 rfl _ _ _ rfl rfl hr2 ?_
  refine hK.out _ _ s2 (fun _ => ?_)
  clear hK K
  (try simp only [Act.put, List.setIfInBounds_toArray, List.set_cons_zero, List.set_cons_succ])
  refine wpAnyH_ready (rs := [5]) (by kernel_rfl) (by simp) ?_
  refine AllReadyH.cons rfl (fun K hK => ?_) AllReadyH.nil
  refine ready_append2 rfl (.tmp 17) (.tmp 19) 27 9 rfl _ _ _ rfl rfl hr3 ?_
  refine hK.out _ _ s3 (fun _ => ?_)
  clear hK K
  (try simp only [Act.put, List.setIfInBounds_toArray, List.set_cons_zero, List.set_cons_succ])
  refine wpAnyH_ready (rs := [6]) (by kernel_rfl) (by simp) ?_
  refine AllReadyH.cons rfl (fun K hK => ?_) AllReadyH.nil
  go_simp
  refine hK.out _ _ s3 (fun _ => ?_)
  clear hK K
  refine wpAnyH_done (by kernel_rfl) ?_ _
  go_wp2_with fail
  go_ret
  obtain ⟨u', rfl, h1, h2⟩ := HF.out
  exact ⟨_, rfl, h1, h2⟩
end Go.Proofs.Ytdglobonbhkheaa

/-
  The parts: texts, and bytes of a fixed length, read.
-/
namespace Go.Proofs.Ytdglobonbhkheaa
set_option linter.unusedVariables false
set_option linter.unusedSimpArgs false
open Go.ChangeShapes Go.WideShapes Go.ChangeAt Go.RowKit Go.Deep

set_option maxRecDepth 100000 in
set_option maxHeartbeats 2000000 in
theorem fix3_any (B z : Nat) (w : World) (hB : w.cell? ⟨B, 0, none⟩ = some (.int .i64 z)) (hz : z ≤ 1048576) (a : Option Addr) (len cap p : Nat) (bs : List Nat) (h : Byt w a len cap bs) (hp : p ≤ len) :
    Calls Try.prog 78 #[.slice a len cap, .int .i64 p, .pointer (some ⟨B, 0, none⟩)] w fun e w' => ∃ d : Dat, e = .returned (.tuple #[dval d, .bool (front 7 z (bs.drop p)).isSome]) ∧ (∀ d', front 7 z (bs.drop p) = some d' → d = d') ∧ Below w.heap.size w w' := by
  have hx : (w.alloc (.cells #[.int .i64 0, .int .i64 0, .string { data := #[] }] 48 (0, 0))).heap[w.heap.size]? = some (.cells #[.int .i64 0, .int .i64 0, .string { data := #[] }] 48 (0, 0)) := heap_new w _
  have ab := alloc_below w (.cells #[.int .i64 0, .int .i64 0, .string { data := #[] }] 48 (0, 0))
  have c0 := cell_later ab hB
  have hl := h.len
  have hz' : IntKind.u64.wrap (z : Int) = ((z : Nat) : Int) := by rw [IntKind.wrap_u64]; omega
  have hdl : (bs.drop p).length = len - p := by rw [List.length_drop, hl]
  have HFR : Hid (front 7 (z : Int) (bs.drop p) = if z ≤ (bs.drop p).length then some ⟨7, 0, txt ((bs.drop p).take z)⟩ else none) := rfl
  by_cases hin : z ≤ len - p
  · have CU := fun W (hb : Below w.heap.size w W) => cut_yes (h.later hb) p z hp hin
    have HFE : Hid (front 7 (z : Int) (bs.drop p) = some ⟨7, 0, txt ((bs.drop p).take z)⟩) := by show _ = _; rw [HFR.out, if_pos (by omega)]
    obtain ⟨T, HT⟩ : ∃ T, Hid (txt ((bs.drop p).take z) = T) := ⟨_, rfl⟩
    rw [HT.out] at CU HFE
    clear hl hdl HFR h hB hin hp
    have CF := fun W => fixed_any T W
    go_enter Try.func78, Try.ntmps78
    go_wp2_with fail
    refine (CU _ ab).mono ?_
    rintro e W1 ⟨rfl, hW1⟩
    obtain rfl := hW1.symm
    generalize w.alloc (.cells #[.int .i64 0, .int .i64 0, .string { data := #[] }] 48 (0, 0)) = W1 at *
    go_wp2_with fail
    refine (CF _).mono ?_
    rintro e W2 ⟨rfl, hb2⟩
    have hx1 := hx
    have hb0 := ab
    clear CU CF ab hx
    have hx2 := below_at hb2 hx1
    obtain ⟨_, f0, f1, f2⟩ := blk3 hx2
    obtain ⟨X, HX, c0, c1, c2, hbX⟩ := box_dat hx2 ⟨7, 0, T⟩
    have hb3 := hb0.trans ((hb2.mono hb0.size).trans (hbX.mono (Nat.le_refl _)))
    clear hb2 hbX hx1 hx2
    go_wp2_with fail
    try rw [HX]
    exact bodyPost_ret (v := .tuple #[.agg #[.int .i64 7, .int .i64 0, .string T], .bool true]) (by simp [results, Try.results78, go_sem, Try.underlying48, c0, c1, c2]) rfl ⟨⟨7, 0, T⟩, by rw [HFE.out]; try rfl, by rw [HFE.out]; intro d' hd; cases hd; try rfl, hb3⟩
  · have CU := fun W (hb : Below w.heap.size w W) => cut_no (h.later hb) p z hp (by omega) hin
    have HFE : Hid (front 7 (z : Int) (bs.drop p) = none) := by show _ = _; rw [HFR.out, if_neg (by omega)]
    clear hl hdl HFR h hB hin hp
    have CF := fun W => fixed_any { data := #[] } W
    go_enter Try.func78, Try.ntmps78
    go_wp2_with fail
    refine (CU _ ab).mono ?_
    rintro e W1 ⟨rfl, hW1⟩
    obtain rfl := hW1.symm
    generalize w.alloc (.cells #[.int .i64 0, .int .i64 0, .string { data := #[] }] 48 (0, 0)) = W1 at *
    go_wp2_with fail
    refine (CF _).mono ?_
    rintro e W2 ⟨rfl, hb2⟩
    have hx1 := hx
    have hb0 := ab
    clear CU CF ab hx
    have hx2 := below_at hb2 hx1
    obtain ⟨_, f0, f1, f2⟩ := blk3 hx2
    obtain ⟨X, HX, c0, c1, c2, hbX⟩ := box_dat hx2 ⟨7, 0, { data := #[] }⟩
    have hb3 := hb0.trans ((hb2.mono hb0.size).trans (hbX.mono (Nat.le_refl _)))
    clear hb2 hbX hx1 hx2
    go_wp2_with fail
    try rw [HX]
    exact bodyPost_ret (v := .tuple #[.agg #[.int .i64 7, .int .i64 0, .string { data := #[] }], .bool false]) (by simp [results, Try.results78, go_sem, Try.underlying48, c0, c1, c2]) rfl ⟨⟨7, 0, { data := #[] }⟩, by rw [HFE.out]; try rfl, by rw [HFE.out]; intro d' hd; cases hd; try rfl, hb3⟩
set_option maxRecDepth 100000 in
set_option maxHeartbeats 2000000 in
theorem text3_any (w : World) (a : Option Addr) (len cap p : Nat) (bs : List Nat) (h : Byt w a len cap bs) (hp : p ≤ len) (z : Int) :
    Calls Try.prog 73 #[.slice a len cap, .int .i64 p] w fun e w' => ∃ d : Dat, e = .returned (.tuple #[dval d, .bool (front 6 z (bs.drop p)).isSome]) ∧ (∀ d', front 6 z (bs.drop p) = some d' → d = d') ∧ Below w.heap.size w w' := by
  have hx : (w.alloc (.cells #[.int .i64 0, .int .i64 0, .string { data := #[] }] 48 (0, 0))).heap[w.heap.size]? = some (.cells #[.int .i64 0, .int .i64 0, .string { data := #[] }] 48 (0, 0)) := heap_new w _
  have ab := alloc_below w (.cells #[.int .i64 0, .int .i64 0, .string { data := #[] }] 48 (0, 0))
  have hl := h.len
  have RD := readl_nat (h.later ab) p 4 hp (by omega)
  have hdl : (bs.drop p).length = len - p := by rw [List.length_drop, hl]
  have hlt := pk8_lt (l := (bs.drop p).take 4) (fun x hx => h.lt x (List.mem_of_mem_drop (List.mem_of_mem_take hx)))
  have HFR : Hid (front 6 z (bs.drop p) = if 4 ≤ (bs.drop p).length ∧ pk 8 ((bs.drop p).take 4) ≤ (bs.drop p).length - 4 then some ⟨6, 0, txt (((bs.drop p).drop 4).take (pk 8 ((bs.drop p).take 4)))⟩ else none) := rfl
  have hdd : (bs.drop p).drop 4 = bs.drop (p + 4) := by rw [List.drop_drop]
  rw [hdd] at HFR
  have hlen := h.most
  have hp' : (p : Int) ≤ 1048576 := by omega
  have HH : Hid (∀ W, Below w.heap.size w W → Byt W a len cap bs) := fun W hb => h.later hb
  clear h
  go_enter Try.func73, Try.ntmps73
  go_wp2_with fail
  refine RD.mono ?_
  rintro e W1 ⟨x, er, rfl, hcase, hb1⟩
  have hx1 := below_at hb1 hx
  have hb0 := ab.trans (hb1.mono ab.size)
  obtain ⟨_, f0, f1, f2⟩ := blk3 hx1
  rcases hcase with ⟨hle, hxe, rfl⟩ | ⟨hnle, hxe, rfl⟩
  · rw [List.length_take_of_le hle, ← hxe] at hlt
    rw [← hxe] at HFR
    have hx64 : x ≤ 18446744073709551615 := by
      have : (2 : Nat) ^ (8 * 4) = 4294967296 := by decide
      omega
    have hp4 : p + 4 ≤ len := by omega
    clear hxe hlt RD hb1 hx ab
    by_cases hin : x ≤ len - (p + 4)
    · have CU := cut_yes (HH.out W1 hb0) (p + 4) x hp4 hin
      have HFE : Hid (front 6 z (bs.drop p) = some ⟨6, 0, txt ((bs.drop (p + 4)).take x)⟩) := by show _ = _; rw [HFR.out, if_pos (by omega)]
      obtain ⟨T, HT⟩ : ∃ T, Hid (txt ((bs.drop (p + 4)).take x) = T) := ⟨_, rfl⟩
      rw [HT.out] at CU HFE
      rw [show ((p + 4 : Nat) : Int) = (p : Int) + 4 from by omega] at CU
      have CF := fun W => bytes_any T W
      clear hl hdl HFR hin hle hp4 hx64 hdd hlen hp HH
      go_wp2_with fail
      refine CU.mono ?_
      rintro e W2 ⟨rfl, hW1⟩
      obtain rfl := hW1.symm
      go_wp2_with fail
      refine (CF _).mono ?_
      rintro e W2 ⟨rfl, hb2⟩
      clear CU CF f0 f1 f2
      have hx2 := below_at hb2 hx1
      obtain ⟨_, f0, f1, f2⟩ := blk3 hx2
      obtain ⟨X, HX, c0, c1, c2, hbX⟩ := box_dat hx2 ⟨6, 0, T⟩
      have hb3 := hb0.trans ((hb2.mono hb0.size).trans (hbX.mono (Nat.le_refl _)))
      clear hb2 hbX hx1 hx2
      go_wp2_with fail
      try rw [HX]
      exact bodyPost_ret (v := .tuple #[.agg #[.int .i64 6, .int .i64 0, .string T], .bool true]) (by simp [results, Try.results73, go_sem, Try.underlying48, c0, c1, c2]) rfl ⟨⟨6, 0, T⟩, by rw [HFE.out]; try rfl, by rw [HFE.out]; intro d' hd; cases hd; try rfl, hb3⟩
    · have CU := cut_no (HH.out W1 hb0) (p + 4) x hp4 hx64 hin
      have HFE : Hid (front 6 z (bs.drop p) = none) := by show _ = _; rw [HFR.out, if_neg (by omega)]
      rw [show ((p + 4 : Nat) : Int) = (p : Int) + 4 from by omega] at CU
      have CF := fun W => bytes_any { data := #[] } W
      clear hl hdl HFR hin hle hp4 hx64 hdd hlen hp HH
      go_wp2_with fail
      refine CU.mono ?_
      rintro e W2 ⟨rfl, hW1⟩
      obtain rfl := hW1.symm
      go_wp2_with fail
      refine (CF _).mono ?_
      rintro e W2 ⟨rfl, hb2⟩
      clear CU CF f0 f1 f2
      have hx2 := below_at hb2 hx1
      obtain ⟨_, f0, f1, f2⟩ := blk3 hx2
      obtain ⟨X, HX, c0, c1, c2, hbX⟩ := box_dat hx2 ⟨6, 0, { data := #[] }⟩
      have hb3 := hb0.trans ((hb2.mono hb0.size).trans (hbX.mono (Nat.le_refl _)))
      clear hb2 hbX hx1 hx2
      go_wp2_with fail
      try rw [HX]
      exact bodyPost_ret (v := .tuple #[.agg #[.int .i64 6, .int .i64 0, .string { data := #[] }], .bool false]) (by simp [results, Try.results73, go_sem, Try.underlying48, c0, c1, c2]) rfl ⟨⟨6, 0, { data := #[] }⟩, by rw [HFE.out]; try rfl, by rw [HFE.out]; intro d' hd; cases hd; try rfl, hb3⟩
  · have HFE : Hid (front 6 z (bs.drop p) = none) := by show _ = _; rw [HFR.out, if_neg (by omega)]
    have hb2 : Below W1.heap.size W1 W1 := Below.refl _ _
    clear hl hdl HFR hnle hdd hlen hp HH hlt RD hb1 hx ab hxe
    have hx2 := below_at hb2 hx1
    obtain ⟨_, f0, f1, f2⟩ := blk3 hx2
    obtain ⟨X, HX, c0, c1, c2, hbX⟩ := box_dat hx2 ⟨0, 0, { data := #[] }⟩
    have hb3 := hb0.trans ((hb2.mono hb0.size).trans (hbX.mono (Nat.le_refl _)))
    clear hb2 hbX hx1 hx2
    go_wp2_with fail
    try rw [HX]
    exact bodyPost_ret (v := .tuple #[.agg #[.int .i64 0, .int .i64 0, .string { data := #[] }], .bool false]) (by simp [results, Try.results73, go_sem, Try.underlying48, c0, c1, c2]) rfl ⟨⟨0, 0, { data := #[] }⟩, by rw [HFE.out]; try rfl, by rw [HFE.out]; intro d' hd; cases hd; try rfl, hb3⟩
end Go.Proofs.Ytdglobonbhkheaa

/-
  A row's bytes: how many, and which.
-/
namespace Go.Proofs.Ytdglobonbhkheaa
set_option linter.unusedVariables false
set_option linter.unusedSimpArgs false
open Go.ChangeShapes Go.WideShapes Go.ChangeAt Go.RowKit Go.Deep

theorem all_at {k z : Int} {l : List Dat} (h : wAll k z l = true) {i : Nat} {d : Dat} (hd : l[i]? = some d) : ofB d.k d.n d.s.size k z = true := List.all_eq_true.1 h d (List.mem_of_getElem? hd)
theorem all_len {k z : Int} {l : List Dat} (h : wAll k z l = true) (h0 : k ≠ 0) : ∀ i, (eb (l.take i)).length ≤ 1048580 * i := by
  intro i
  induction i with
  | zero => simp [eb]
  | succ i ih =>
    rcases Nat.lt_or_ge i l.length with hi | hi
    · rw [List.take_succ_eq_append_getElem hi, eb_snoc, List.length_append]
      have ho := all_at h (List.getElem?_eq_getElem hi)
      have := (of_size ho).1
      rw [db_len ho h0]
      omega
    · rw [List.take_of_length_le (by omega)] at ih ⊢
      omega
theorem eb_next {k z : Int} {l : List Dat} (h : wAll k z l = true) (h0 : k ≠ 0) {i : Nat} {d : Dat} (hd : l[i]? = some d) : eb (l.take (i + 1)) = eb (l.take i) ++ db d ∧ (db d).length = dsz k z d := by
  obtain ⟨h1, h2⟩ := List.getElem?_eq_some_iff.1 hd
  subst h2
  refine ⟨?_, db_len (all_at h hd) h0⟩
  rw [List.take_succ_eq_append_getElem h1, eb_snoc]

set_option maxRecDepth 100000 in
set_option maxHeartbeats 2000000 in
theorem sizeAll_any (w : World) (p : Value) (k z : Int) (hp : Part w p k z) (h0 : k ≠ 0) (a : Option Addr) (len cap : Nat) (l : List Dat) (h : Data w a len cap l) (hall : wAll k z l = true) (hlen : len ≤ 65536) :
    Calls Try.prog 60 #[p, .slice a len cap] w fun e w' => e = .returned (.int .i64 (eb l).length) ∧ Below w.heap.size w w' := by
  have hl := h.1
  obtain ⟨f1, f2, f3, b1, b2, b3, rfl, e1, e2, e3, c1, c2, c3⟩ := hp.ex
  unfold Ent at e1
  have ab := alloc_below w (.cells #[.func (.func f1) #[] b1, .func (.func f2) #[] b2, .func (.func f3) #[] b3] 96 (0, 0))
  have hx : (w.alloc (.cells #[.func (.func f1) #[] b1, .func (.func f2) #[] b2, .func (.func f3) #[] b3] 96 (0, 0))).heap[w.heap.size]? = some (.cells #[.func (.func f1) #[] b1, .func (.func f2) #[] b2, .func (.func f3) #[] b3] 96 (0, 0)) := heap_new w _
  have HL : Hid (l.length = len) := hl
  have HM := fun i => all_len hall h0 i
  have HMh : Hid (∀ i, (eb (l.take i)).length ≤ 1048580 * i) := HM
  have hlen' : (len : Int) ≤ 65536 := by omega
  clear hl HM
  go_enter Try.func60, Try.ntmps60
  go_wp2_with fail
  generalize w.alloc (.cells #[.func (.func f1) #[] b1, .func (.func f2) #[] b2, .func (.func f3) #[] b3] 96 (0, 0)) = W0 at *
  go_loopw [5, 10] (fun sv iv wr => ∃ i n : Nat, i ≤ len ∧ iv = .int .i64 (i : Int) ∧ sv = .int .i64 (n : Int) ∧ Hid (n = (eb (l.take i)).length) ∧ Below W0.heap.size W0 wr) (fun _ iv _ => len - (intOf iv).toNat)
  case atStart => exact ⟨0, 0, Nat.zero_le _, rfl, rfl, rfl, Below.refl _ _⟩
  case round =>
    obtain ⟨i, n, hi, rfl, rfl, H, hb⟩ := hrel
    have hbw := ab.trans (hb.mono ab.size)
    by_cases hlt : i < len
    · have hlt' : (i : Int) < (len : Int) := by omega
      obtain ⟨d, g, o, hd, wd, rfl, hg, y0, y1, y2⟩ := data_at (h.later hbw) hlt
      obtain ⟨he1, he2⟩ := eb_next hall h0 hd
      have hod := of_size (all_at hall hd)
      have hsd : d.s.size ≤ 1048576 := by
        have := (fine_parts (of_parts (all_at hall hd)).2.2.1).2.2.2.2
        have hb5 : bo d.k 5 ≤ 1048576 := by simp only [bo]; split <;> omega
        omega
      have HN : Hid (n + dsz k z d = (eb (l.take (i + 1))).length) := by
        have := H.out
        show _ = _
        rw [he1, List.length_append, he2]
        omega
      have hbn : (n : Int) ≤ 1048580 * 65536 := by
        have h1 := H.out
        have h2 := HMh.out i
        have h3 : 1048580 * i ≤ 1048580 * 65536 := Nat.mul_le_mul_left _ (by omega)
        omega
      have hab := alloc_below wr (.cells #[.int .i64 d.k, .int .i64 d.n, .string d.s] 48 (0, 0))
      have C := c1 _ (hbw.trans (hab.mono hbw.size)) d hsd
      have hz1 := hod.1
      have hz1' : ((dsz k z d : Nat) : Int) ≤ 1048580 := by omega
      generalize dsz k z d = s at *
      simp only [dval] at C
      obtain ⟨⟨z0, z1, z2⟩, _⟩ := blk3 (below_at hb hx)
      have z0' := cell_later hab z0
      clear he1 he2 hod hsd hd wd c1 c2 c3 z1 z2 hz1 H
      go_wp2_with fail
      refine C.mono ?_
      rintro e W2 ⟨rfl, hb2⟩
      have hb3 := hb.trans ((hab.trans (hb2.mono hab.size)).mono hb.size)
      clear C hb2 hab z0 z0'
      go_wp2_with fail
      go_roundw
      case rel => exact ⟨i + 1, n + s, by omega, by go_num, by go_num, HN, hb3⟩
      case measure => simp [intOf]; omega
    · have hlt' : (len : Int) ≤ (i : Int) := by omega
      have HE : Hid (n = (eb l).length) := by
        have := H.out
        rw [List.take_of_length_le (by have := HL.out; omega)] at this
        exact this
      go_wp2_with fail
      go_ret
      exact ⟨by rw [HE.out]; rfl, hbw⟩

set_option maxRecDepth 100000 in
set_option maxHeartbeats 4000000 in
theorem layAll_any (w : World) (p : Value) (k z : Int) (hp : Part w p k z) (h0 : k ≠ 0) (a : Option Addr) (len cap : Nat) (l : List Dat) (h : Data w a len cap l) (hall : wAll k z l = true) (hlen : len ≤ 65536) (hsz : (eb l).length ≤ 1048576) :
    Calls Try.prog 61 #[p, .slice a len cap] w fun e w' => ∃ u, e = .returned u ∧ w'.ownsRow w.heap.size 5 1 u (eb l).length (c8 (eb l)) ∧ Below w.heap.size w w' := by
  have hl := h.1
  have SA := fun W (hb : Below w.heap.size w W) => sizeAll_any W p k z (hp.later hb) h0 a len cap l (h.later hb) hall hlen
  obtain ⟨f1, f2, f3, b1, b2, b3, rfl, e1, e2, e3, c1, c2, c3⟩ := hp.ex
  unfold Ent at e2
  have ab := alloc_below w (.cells #[.func (.func f1) #[] b1, .func (.func f2) #[] b2, .func (.func f3) #[] b3] 96 (0, 0))
  have hx : (w.alloc (.cells #[.func (.func f1) #[] b1, .func (.func f2) #[] b2, .func (.func f3) #[] b3] 96 (0, 0))).heap[w.heap.size]? = some (.cells #[.func (.func f1) #[] b1, .func (.func f2) #[] b2, .func (.func f3) #[] b3] 96 (0, 0)) := heap_new w _
  have HL : Hid (l.length = len) := hl
  obtain ⟨i0, hi, hz0, hz1, hz2⟩ := info_parts infoU8
  have hlen' : (len : Int) ≤ 65536 := by omega
  have hsz' : ((eb l).length : Int) ≤ 1048576 := by omega
  have HZ : Hid ((eb l).length ≤ 1048576) := hsz
  have HSum : Hid (∀ i, (eb (l.take i)).length ≤ (eb l).length) := by
    intro i
    have e : eb l = eb (l.take i) ++ eb (l.drop i) := by rw [← eb_append, List.take_append_drop]
    rw [e, List.length_append]
    omega
  obtain ⟨S, HS⟩ : ∃ S : Nat, Hid ((eb l).length = S) := ⟨_, rfl⟩
  rw [HS.out] at SA hsz'
  clear hl hsz
  go_enter Try.func61, Try.ntmps61
  go_wp2_with fail
  generalize w.alloc (.cells #[.func (.func f1) #[] b1, .func (.func f2) #[] b2, .func (.func f3) #[] b3] 96 (0, 0)) = W0 at *
  refine (SA _ ab).mono ?_
  rintro e W1 ⟨rfl, hb1⟩
  have hb01 := ab.trans (hb1.mono ab.size)
  have hx1 := below_at hb1 hx
  have hs1 := hb01.size
  have hbx : w.heap.size < W1.heap.size := Nat.lt_of_lt_of_le (by have := ab.size; rcases Nat.lt_or_ge w.heap.size W0.heap.size with h | h; exact h; rw [Array.getElem?_eq_none h] at hx; cases hx) hb1.size
  clear SA hb1 hx
  go_wp2_with (at_make; refine wpList_make_own _ rfl _ _ 27 rfl (w.heap.size + 1) 5 i0 (.int .u8 0) 1 Try.underlying27 hi hz0 hz1 _ _ _ S rfl rfl rfl (by rw [hz2]; omega) (by unfold maxLen; omega) (by omega) ?_; intro w2 hown2 hgrow2)
  have hb2 : Below W1.heap.size W1 w2 := (Below.refl _ W1).grown hgrow2 (Nat.le_refl _) (fun _ e => by cases e)
  have hbw2 := hb01.trans (hb2.mono hs1)
  have hx2 := below_at hb2 hx1
  clear hgrow2
  obtain ⟨B, HB⟩ : ∃ B : Nat, Hid (w.heap.size + 1 = B) := ⟨_, rfl⟩
  have hB0 : w.heap.size < B := by have := HB.out; omega
  have hB1 : B ≤ w2.heap.size := Nat.le_trans (by have := HB.out; omega) hb2.size
  rw [HB.out] at hown2
  clear hb01 hs1 hbx hx1 hb2
  go_loopw [5, 14] (fun ov iv wr => ∃ (i n : Nat), i ≤ len ∧ iv = .int .i64 (i : Int) ∧ Hid (n = (eb (l.take i)).length) ∧ wr.ownsRow B 5 1 ov n (c8 (eb (l.take i))) ∧ Below B w2 wr) (fun _ iv _ => len - (intOf iv).toNat)
  case atStart => exact ⟨0, 0, Nat.zero_le _, rfl, rfl, hown2, Below.refl _ _⟩
  case round =>
    obtain ⟨i, n, hi, rfl, H, hown, hb⟩ := hrel
    have hbw := hbw2.trans (hb.mono (Nat.le_of_lt hB0))
    by_cases hlt : i < len
    · have hlt' : (i : Int) < (len : Int) := by omega
      obtain ⟨d, g, o, hd, wd, rfl, hg, y0, y1, y2⟩ := data_at (h.later hbw) hlt
      obtain ⟨he1, he2⟩ := eb_next hall h0 hd
      have hod := all_at hall hd
      have hn : n ≤ 1048576 := by have h1 := H.out; have h2 := HSum.out i; have h3 := HZ.out; omega
      have hab := alloc_below wr (.cells #[.int .i64 d.k, .int .i64 d.n, .string d.s] 48 (0, 0))
      have hBr : B ≤ wr.heap.size := Nat.le_trans hB1 hb.size
      have C := c2 _ (hbw.trans (hab.mono hbw.size)) d B u5 n _ hod (hown.alloc _) (Nat.le_of_lt hB0) (by simp; omega) (by omega)
      have HN : Hid (n + (db d).length = (eb (l.take (i + 1))).length) := by
        have := H.out
        show _ = _
        rw [he1, List.length_append]
        omega
      rw [← c8_append, ← he1] at C
      obtain ⟨⟨z0, z1, z2⟩, _⟩ := blk3 (show wr.heap[w.heap.size]? = some _ from by rw [hb.block _ hB0]; exact hx2)
      have z1' := cell_later hab z1
      simp only [dval] at C
      clear he1 he2 hod hd wd c1 c2 c3 z0 z1 z2 H hown
      go_wp2_with fail
      refine C.mono ?_
      rintro e W3 ⟨u', rfl, hown3, hb3⟩
      have hb4 := hb.trans ((hab.mono hBr).trans hb3)
      clear C hb3 hab z1'
      go_wp2_with fail
      go_roundw
      case rel => exact ⟨i + 1, _, by omega, by go_num, HN, hown3, hb4⟩
      case measure => simp [intOf]; omega
    · have hlt' : (len : Int) ≤ (i : Int) := by omega
      have HE : Hid (n = (eb l).length ∧ wr.ownsRow B 5 1 u5 n (c8 (eb l))) := by
        have h1 := H.out
        rw [List.take_of_length_le (by have := HL.out; omega)] at h1 hown
        exact ⟨h1, hown⟩
      clear hown
      go_wp2_with fail
      go_ret
      exact ⟨_, rfl, by rw [← HE.out.1]; exact own_mono HE.out.2 (by omega), hbw⟩
end Go.Proofs.Ytdglobonbhkheaa
