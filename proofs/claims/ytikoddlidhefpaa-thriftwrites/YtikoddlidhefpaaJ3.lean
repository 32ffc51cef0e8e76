/-
  The writer's numbers.
-/
import Derived.Test.YtikoddlidhefpaaJ2
import Derived.LaidMore
import Derived.Laws.BitsAllLaws
import Derived.ArgAppend
namespace Go.Proofs.Ytikoddlidhefpaa
open Go.ChangeShapes Go.WideShapes Go.ChangeAt Go.RowKit Go.Deep

/-- a number's bytes: seven bits a byte -/
def numF : Nat → Nat → List Nat
  | 0, n => [n]
  | f + 1, n => if n < 128 then [n] else (n % 128 + 128) :: numF f (n / 128)
def numB (n : Nat) : List Nat := numF 9 n
theorem numF_len : ∀ (f n : Nat), (numF f n).length ≤ f + 1
  | 0, n => by simp [numF]
  | f + 1, n => by
    unfold numF
    split
    · simp
    · have := numF_len f (n / 128)
      simp; omega
theorem numB_len (n : Nat) : (numB n).length ≤ 10 := numF_len 9 n

theorem or128 (n : Nat) : bits .or .u8 ((n % 256 : Nat) : Int) 128 = ((n % 128 + 128 : Nat) : Int) := by
  have h2 : n % 256 < 256 := Nat.mod_lt _ (by omega)
  have e1 : n % 128 = (n % 256) % 128 := by omega
  rw [e1]
  generalize n % 256 = m at *
  clear e1
  have : ∀ m : Fin 256, bits .or .u8 ((m.val : Nat) : Int) 128 = ((m.val % 128 + 128 : Nat) : Int) := by decide +kernel
  exact this ⟨m, h2⟩

set_option maxRecDepth 10000 in
set_option maxHeartbeats 1000000 in
theorem number_any (w : World) (B : Nat) (out : List Nat) (n : Nat) (hn : n < 18446744073709551616) (hl : out.length + 10 ≤ 70368744177664) (h : Wr w B out) :
    Calls Try.prog 56 #[.pointer (some ⟨B, 0, none⟩), .int .u64 n] w fun e w' => e = .returned (.tuple #[]) ∧ Wr w' B (out ++ numB n) ∧ WF B w w' := by
  have hn' : (n : Int) ≤ 18446744073709551615 := by omega
  go_enter Try.func56, Try.ntmps56
  go_wp2_with fail
  go_loopw [1] (fun nv wr => ∃ (f m : Nat) (done : List Nat), nv = .int .u64 m ∧ Hid (m < 128 ^ f * 2 ∧ f ≤ 9 ∧ m < 18446744073709551616 ∧ done.length + f = 9) ∧ Hid (done ++ numF f m = numB n) ∧ Hid (Wr wr B (out ++ done)) ∧ WF B w wr) (fun nv _ => (intOf nv).toNat)
  case atStart => exact ⟨9, n, [], rfl, ⟨by omega, by omega, hn, rfl⟩, rfl, by rw [List.append_nil]; exact h, WF.refl _ _⟩
  case round =>
    obtain ⟨f, m, done, rfl, HM, HE, HW, hwf⟩ := hrel
    obtain ⟨m1, m2, m3, m4⟩ := HM.out
    have m3' : (m : Int) ≤ 18446744073709551615 := by omega
    by_cases hlt : m < 128
    · have hlt' : (m : Int) < 128 := by omega
      have HE' : Hid (done ++ [m] = numB n) := by
        show _ = _
        rw [← HE.out]
        cases f with
        | zero => rfl
        | succ f => simp [numF, hlt]
      have L := lay_any wr B (out ++ done) m (by simp; omega) HW.out
      rw [List.append_assoc, HE'.out] at L
      clear HE HE' m1 m3
      go_wp2_with fail
      refine L.mono ?_
      rintro e wx ⟨rfl, hwx⟩
      go_wp2_with fail
      go_end0
      exact ⟨rfl, hwx.1, hwf.trans hwx.2⟩
    · have hlt' : (128 : Int) ≤ (m : Int) := by omega
      obtain ⟨f, rfl⟩ : ∃ g, f = g + 1 := by
        cases f with
        | zero => simp at m1; omega
        | succ f => exact ⟨f, rfl⟩
      have HE' : Hid ((done ++ [m % 128 + 128]) ++ numF f (m / 128) = numB n) := by
        show _ = _
        rw [← HE.out]
        simp [numF, hlt]
      have HM' : Hid (m / 128 < 128 ^ f * 2 ∧ f ≤ 9 ∧ m / 128 < 18446744073709551616 ∧ (done ++ [m % 128 + 128]).length + f = 9) := by
        refine ⟨?_, by omega, by omega, by simp; omega⟩
        rw [Nat.pow_succ] at m1
        generalize 128 ^ f = z at *
        omega
      have HMS : Hid (m / 128 < m) := by show _ < _; omega
      have L := lay_any wr B (out ++ done) (m % 128 + 128) (by simp; omega) HW.out
      rw [List.append_assoc] at L
      have o1 := or128 m
      have o2 : ((m % 256 : Nat) : Int) = (m : Int) % 256 := by omega
      rw [o2] at o1
      obtain ⟨q, hq⟩ : ∃ q : Nat, q = m / 128 := ⟨_, rfl⟩
      have o3 : (m : Int) / 128 = (q : Int) := by omega
      rw [← hq] at HE' HM' HMS
      clear o2 hq
      generalize m % 128 + 128 = z at *
      clear HE m1 m3
      go_wp2_with fail
      refine L.mono ?_
      rintro e wx ⟨rfl, hwx⟩
      go_wp2_with fail
      go_roundw
      case rel => exact ⟨f, q, done ++ [z], rfl, HM', HE', hwx.1, hwf.trans hwx.2⟩
      case measure => have := HMS.out; simp [intOf]; omega

def zz (n : Int) : Int := if 0 ≤ n then 2 * n else -2 * n - 1
theorem xor_ones_u64 (a : Nat) (ha : a < 18446744073709551616) : bits .xor .u64 (a : Int) 18446744073709551615 = 18446744073709551615 - (a : Int) := by
  show IntKind.u64.wrap ((BitVec.ofInt 64 (a : Int) ^^^ BitVec.ofInt 64 18446744073709551615).toNat : Int) = _
  have h1 : BitVec.ofInt 64 18446744073709551615 = BitVec.allOnes 64 := by decide
  rw [h1, BitVec.xor_allOnes, BitVec.toNat_not, ofInt_u64 a (by omega)]
  simp [IntKind.wrap, IntKind.bits, IntKind.signed]
  omega
theorem xor_zero_u64 (a : Nat) (ha : a < 18446744073709551616) : bits .xor .u64 (a : Int) 0 = (a : Int) := by
  have := u64_xor_nat a 0 ha (by omega)
  simpa using this
theorem zig_val (a : Int) (h1 : -9223372036854775808 ≤ a) (h2 : a ≤ 9223372036854775807) :
    bits BinOp.xor IntKind.u64 (IntKind.u64.wrap (wrap64 (a * 2))) (IntKind.u64.wrap (a / 9223372036854775808)) = zz a := by
  rw [IntKind.wrap_u64, IntKind.wrap_u64]
  unfold wrap64 zz
  by_cases h : 0 ≤ a
  · rw [if_pos h]
    have e1 : ((a * 2 + 9223372036854775808) % 18446744073709551616 - 9223372036854775808) % 18446744073709551616 = ((2 * a).toNat : Int) := by omega
    have e2 : a / 9223372036854775808 % 18446744073709551616 = 0 := by omega
    rw [e1, e2, xor_zero_u64 _ (by omega)]
    omega
  · rw [if_neg h]
    have e1 : ((a * 2 + 9223372036854775808) % 18446744073709551616 - 9223372036854775808) % 18446744073709551616 = ((2 * a + 18446744073709551616).toNat : Int) := by omega
    have e2 : a / 9223372036854775808 % 18446744073709551616 = 18446744073709551615 := by omega
    rw [e1, e2, xor_ones_u64 _ (by omega)]
    omega

/-- a number with its sign, as one from 0 on -/
def zig (n : Int) : Nat := (zz n).toNat
theorem zig_zz {n : Int} (h : i64ok n) : ((zig n : Nat) : Int) = zz n ∧ zig n < 18446744073709551616 := by
  obtain ⟨h0, h1⟩ := h
  unfold zig zz
  split <;> omega

set_option maxRecDepth 10000 in
set_option maxHeartbeats 1000000 in
theorem wsigned_any (w : World) (B : Nat) (out : List Nat) (n : Int) (hn : i64ok n) (hl : out.length + 10 ≤ 70368744177664) (h : Wr w B out) :
    Calls Try.prog 54 #[.pointer (some ⟨B, 0, none⟩), .int .i64 n] w fun e w' => e = .returned (.tuple #[]) ∧ Wr w' B (out ++ numB (zig n)) ∧ WF B w w' := by
  have hz := zig_zz hn
  obtain ⟨n0, n1⟩ := hn
  have L := number_any w B out (zig n) hz.2 hl h
  have v := zig_val n n0 n1
  rw [← hz.1] at v
  clear hz hl h
  generalize zig n = z at *
  by_cases hs : 0 ≤ n
  · have e0 : n / 9223372036854775808 = 0 := by omega
    rw [e0] at v
    have e1 : IntKind.u64.wrap 0 = 0 := by decide
    rw [e1] at v
    clear e1
    go_enter Try.func54, Try.ntmps54
    go_wp2_with fail
    refine L.mono ?_
    rintro e wx ⟨rfl, hwx⟩
    go_wp2_with fail
    go_end0
    exact ⟨rfl, hwx⟩
  · go_enter Try.func54, Try.ntmps54
    go_wp2_with fail
    refine L.mono ?_
    rintro e wx ⟨rfl, hwx⟩
    go_wp2_with fail
    go_end0
    exact ⟨rfl, hwx⟩

set_option maxRecDepth 10000 in
set_option maxHeartbeats 1000000 in
theorem layHalves_any (w : World) (B : Nat) (out : List Nat) (a b : Nat) (ha : a < 16) (hb : b < 16) (hl : out.length + 1 ≤ 70368744177664) (h : Wr w B out) :
    Calls Try.prog 74 #[.pointer (some ⟨B, 0, none⟩), .int .i64 a, .int .i64 b] w fun e w' => e = .returned (.tuple #[]) ∧ Wr w' B (out ++ [16 * a + b]) ∧ WF B w w' := by
  have L := lay_any w B out (16 * a + b) hl h
  obtain ⟨c, hc⟩ : ∃ c : Nat, c = 16 * a + b := ⟨_, rfl⟩
  rw [← hc] at L ⊢
  have e : (a : Int) * 16 + (b : Int) = (c : Int) := by omega
  have hc2 : (c : Int) < 256 := by omega
  have ha' : (a : Int) < 16 := by omega
  have hb' : (b : Int) < 16 := by omega
  clear hc hl h
  go_enter Try.func74, Try.ntmps74
  go_wp2_with fail
  refine L.mono ?_
  rintro e wx ⟨rfl, hwx⟩
  go_wp2_with fail
  go_end0
  exact ⟨rfl, hwx⟩

/-- the eight bytes of a number, the lowest ahead -/
def leB : Nat → Nat → List Nat
  | 0, _ => []
  | k + 1, n => n % 256 :: leB k (n / 256)
theorem leB_len : ∀ (k n : Nat), (leB k n).length = k
  | 0, _ => rfl
  | k + 1, n => by simp [leB, leB_len k]

set_option maxRecDepth 10000 in
set_option maxHeartbeats 1000000 in
theorem wdouble_any (w : World) (B : Nat) (out : List Nat) (n : Nat) (hn : n < 18446744073709551616) (hl : out.length + 8 ≤ 70368744177664) (h : Wr w B out) :
    Calls Try.prog 55 #[.pointer (some ⟨B, 0, none⟩), .int .u64 n] w fun e w' => e = .returned (.tuple #[]) ∧ Wr w' B (out ++ leB 8 n) ∧ WF B w w' := by
  go_enter Try.func55, Try.ntmps55
  go_wp2_with fail
  go_loopw [1, 4] (fun nv iv wr => ∃ (i m : Nat) (done : List Nat), nv = .int .u64 m ∧ iv = .int .i64 i ∧ i ≤ 8 ∧ Hid (m < 18446744073709551616 ∧ done.length = i) ∧ Hid (done ++ leB (8 - i) m = leB 8 n) ∧ Hid (Wr wr B (out ++ done)) ∧ WF B w wr) (fun _ iv _ => 8 - (intOf iv).toNat)
  case atStart => exact ⟨0, n, [], rfl, rfl, by omega, ⟨hn, rfl⟩, rfl, by rw [List.append_nil]; exact h, WF.refl _ _⟩
  case round =>
    obtain ⟨i, m, done, rfl, rfl, hi, HM, HE, HW, hwf⟩ := hrel
    obtain ⟨m1, m2⟩ := HM.out
    have m3' : (m : Int) ≤ 18446744073709551615 := by omega
    by_cases hlt : i < 8
    · have hlt' : (i : Int) < 8 := by omega
      have HE' : Hid ((done ++ [m % 256]) ++ leB (8 - (i + 1)) (m / 256) = leB 8 n) := by
        show _ = _
        rw [← HE.out, show 8 - i = (8 - (i + 1)) + 1 by omega]
        simp [leB]
      have L := lay_any wr B (out ++ done) (m % 256) (by simp; omega) HW.out
      rw [List.append_assoc] at L
      obtain ⟨q, hq⟩ : ∃ q : Nat, q = m / 256 := ⟨_, rfl⟩
      obtain ⟨z, hz⟩ : ∃ z : Nat, z = m % 256 := ⟨_, rfl⟩
      have o3 : (m : Int) / 256 = (q : Int) := by omega
      have o4 : (m : Int) % 256 = (z : Int) := by omega
      rw [← hz] at L HE'
      rw [← hq] at HE'
      have HM' : Hid (q < 18446744073709551616 ∧ (done ++ [z]).length = i + 1) := ⟨by omega, by simp; omega⟩
      clear HE m1 hq hz
      go_wp2_with fail
      refine L.mono ?_
      rintro e wx ⟨rfl, hwx⟩
      go_wp2_with fail
      go_roundw
      case rel => exact ⟨i + 1, q, done ++ [z], rfl, by go_num, by omega, HM', HE', hwx.1, hwf.trans hwx.2⟩
      case measure => simp [intOf]; omega
    · have hlt' : (8 : Int) ≤ (i : Int) := by omega
      have HE' : Hid (done = leB 8 n) := by
        show _ = _
        rw [← HE.out, show 8 - i = 0 by omega]
        simp [leB]
      have HW' : Hid (Wr wr B (out ++ leB 8 n)) := by have := HW.out; rwa [HE'.out] at this
      go_wp2_with fail
      go_end0
      exact ⟨rfl, HW'.out, hwf⟩
end Go.Proofs.Ytikoddlidhefpaa

/-
  The reader: a box of what is left, of the room and of the ways; what it leaves alone; the first takes.
-/
namespace Go.Proofs.Ytikoddlidhefpaa
set_option linter.unusedVariables false
open Go.ChangeShapes Go.WideShapes Go.ChangeAt Go.RowKit Go.Deep

/-- all blocks but R are as they were -/
structure RF (R : Nat) (w w' : World) : Prop where
  os : w'.os = w.os
  tape : w'.tape = w.tape
  output : w'.output = w.output
  size : w.heap.size ≤ w'.heap.size
  block : ∀ k, k < w.heap.size → k ≠ R → w'.heap[k]? = w.heap[k]?
theorem RF.refl (R : Nat) (w : World) : RF R w w := ⟨rfl, rfl, rfl, Nat.le_refl _, fun _ _ _ => rfl⟩
theorem RF.trans {R : Nat} {a b c : World} (h : RF R a b) (k : RF R b c) : RF R a c :=
  ⟨k.os.trans h.os, k.tape.trans h.tape, k.output.trans h.output, Nat.le_trans h.size k.size, fun i h1 h2 => by rw [k.block i (Nat.lt_of_lt_of_le h1 h.size) h2, h.block i h1 h2]⟩
theorem RF.of_below {R : Nat} {w w' : World} (h : Below w.heap.size w w') : RF R w w' := ⟨h.os, h.tape, h.output, h.size, fun k h1 _ => h.block k h1⟩
theorem RF.below {R : Nat} {w w' : World} (h : RF R w w') (hR : R ≤ w.heap.size) : Below R w w' := ⟨h.os, h.tape, h.output, h.size, fun k hk => h.block k (by omega) (by omega)⟩
theorem RF.old {R : Nat} {w0 w w' : World} (hb : Below w0.heap.size w0 w) (h : RF R w w') (h0 : w0.heap.size ≤ R) (hR : R ≤ w.heap.size) : Below w0.heap.size w0 w' := hb.trans ((h.below hR).mono h0)
theorem RF.box {R b : Nat} {w w' : World} {o : Obj} (h : RF R w w') (hb : w.heap[b]? = some o) (hne : b ≠ R) : w'.heap[b]? = some o := by
  have hlt : b < w.heap.size := by
    rcases Nat.lt_or_ge b w.heap.size with h1 | h1
    · exact h1
    · rw [Array.getElem?_eq_none h1] at hb; cases hb
  rw [h.block b hlt hne, hb]
theorem RF.cell {R : Nat} {w w' : World} (h : RF R w w') {a : Addr} {v : Value} (hc : w.cell? a = some v) (hne : a.block ≠ R) : w'.cell? a = some v := by
  rw [World.cell?_of_block (h.block a.block (block_lt_of_cell hc) hne), hc]
theorem RF.setCell {R : Nat} (w : World) (j : Nat) (v : Value) : RF R w (w.setCell ⟨R, j, none⟩ v) :=
  ⟨rfl, rfl, rfl, by simp [World.setCell], fun k _ hk => Below.heap_setCell _ _ _ _ hk⟩

/-- the reader's box at block R: the bytes 'bs' are left, which lie in memory that was there in w0; the room; the map of the ways -/
structure Rd (w0 w : World) (R : Nat) (m : Nat) (bs : List Nat) (room : Int) : Prop where
  box : ∃ a cp, w.heap[R]? = some (.cells #[.slice a bs.length cp, .int .i64 room, .map (some m)] 72 (0, 0)) ∧ Src w0 a bs.length cp (c8 bs) ∧ bs.length ≤ cp
  b8 : ∀ c ∈ bs, c < 256
  len : bs.length ≤ 140737488355328
  old : Below w0.heap.size w0 w
  le : w0.heap.size ≤ R

theorem Rd.lt {w0 w : World} {R m : Nat} {bs : List Nat} {room : Int} (h : Rd w0 w R m bs room) : R < w.heap.size := by
  obtain ⟨a, cp, h1, _⟩ := h.box
  rcases Nat.lt_or_ge R w.heap.size with h2 | h2
  · exact h2
  · rw [Array.getElem?_eq_none h2] at h1; cases h1
theorem Rd.later {w0 w w' : World} {R m : Nat} {bs : List Nat} {room : Int} (h : Rd w0 w R m bs room) (hb : Below w.heap.size w w') : Rd w0 w' R m bs room := by
  obtain ⟨a, cp, h1, h2⟩ := h.box
  exact ⟨⟨a, cp, by rw [hb.block R h.lt, h1], h2⟩, h.b8, h.len, h.old.trans (hb.mono h.old.size), h.le⟩

/-- how the reader gives up: too short, or no writer's -/
def gives (short : Bool) : Ending := .panicked [{ v := .iface (if short then 63 else 64) (.agg #[]), recovered := false }]

def rTake : List Nat → Except Bool (Nat × List Nat)
  | [] => .error true
  | b :: r => .ok (b, r)

theorem peek_nil (w0 w : World) (R m : Nat) (room : Int) (h : Rd w0 w R m [] room) :
    Calls Try.prog 101 #[.pointer (some ⟨R, 0, none⟩)] w fun e w' => e = gives true ∧ w' = w := by
  obtain ⟨a, cp, h1, h2, _⟩ := h.box
  have c0 : w.cell? ⟨R, 0, none⟩ = some (.slice a 0 cp) := cell_of_block h1 rfl
  go_enter Try.func101, Try.ntmps101
  go_wp2
  exact ⟨rfl, rfl, rfl⟩
theorem peek_cons (w0 w : World) (R m : Nat) (b : Nat) (bs : List Nat) (room : Int) (h : Rd w0 w R m (b :: bs) room) :
    Calls Try.prog 101 #[.pointer (some ⟨R, 0, none⟩)] w fun e w' => e = .returned (.int .u8 b) ∧ w' = w := by
  obtain ⟨a, cp, h1, h2, _⟩ := h.box
  have h3 := src_at h2 (j := 0) (by simp)
  obtain ⟨g, off, rfl, hc⟩ := h3
  have c0 : w.cell? ⟨R, 0, none⟩ = some (.slice (some ⟨g, off, none⟩) (bs.length + 1) cp) := cell_of_block h1 rfl
  have c1 := cell_later h.old hc
  simp at c1
  have hl : ((bs.length + 1 : Nat) : Int) ≤ 140737488355328 := by have := h.len; simp at this; omega
  obtain ⟨L, hL⟩ : ∃ L, L = bs.length + 1 := ⟨_, rfl⟩
  rw [← hL] at c0 hl
  have hL0 : (0 : Int) < (L : Int) := by omega
  have hL1 : ¬ (L : Int) = 0 := by omega
  clear hL
  go_enter Try.func101, Try.ntmps101
  go_wp2
  go_ret
  exact ⟨rfl, rfl⟩

/-- what is left behind the first n -/
theorem src_drop {w : World} {g off len cap n : Nat} {l : List Nat} (h : Src w (some ⟨g, off, none⟩) len cap (c8 l)) (hn : n ≤ len) : Src w (some ⟨g, off + n, none⟩) (len - n) (cap - n) (c8 (l.drop n)) := by
  have hl : l.length = len := by have := h.1; rwa [c8_len] at this
  refine ⟨by rw [c8_len, List.length_drop]; omega, .inr ⟨_, rfl, fun j u hj => ?_⟩⟩
  rcases h.2 with ⟨h1, _⟩ | ⟨p, h1, h2⟩
  · cases h1
  · cases h1
    have := h2 (n + j) u (by
      have e : c8 (l.drop n) = (c8 l).drop n := by simp [c8, List.map_drop]
      rw [e, List.getElem?_drop] at hj
      exact hj)
    rw [← this]
    congr 1
    unfold Addr.add
    split <;> simp_all
    omega
theorem src_zero (w : World) (p : Addr) (c : Nat) : Src w (some p) 0 c (c8 []) := ⟨rfl, .inr ⟨_, rfl, fun j u hj => by simp [c8] at hj⟩⟩

/-- the reader's box behind a store of what is left -/
theorem rd_store {w0 w : World} {R m : Nat} {bs rest : List Nat} {room : Int} (h : Rd w0 w R m bs room) {a : Option Addr} {n cp : Nat} (hn : rest.length = n) (hs : Src w0 a n cp (c8 rest)) (hc : n ≤ cp) (hsub : ∀ c ∈ rest, c ∈ bs) (hle : rest.length ≤ bs.length) :
    Rd w0 (w.setCell ⟨R, 0, none⟩ (.slice a n cp)) R m rest room := by
  obtain ⟨a0, c0, h1, _⟩ := h.box
  subst hn
  refine ⟨⟨a, cp, ?_, hs, hc⟩, fun c hx => h.b8 c (hsub c hx), Nat.le_trans hle h.len, h.old.trans ((RF.setCell w 0 _).below (Nat.le_of_lt h.lt) |>.mono h.le), h.le⟩
  have hlt := h.lt
  simp only [World.setCell]
  rw [Array.getElem?_modify]
  simp [h1]

set_option maxRecDepth 10000 in
set_option maxHeartbeats 1000000 in
theorem take_nil (w0 w : World) (R m : Nat) (room : Int) (h : Rd w0 w R m [] room) :
    Calls Try.prog 92 #[.pointer (some ⟨R, 0, none⟩)] w fun e w' => e = gives true ∧ w' = w := by
  have K := peek_nil w0 w R m room h
  go_enter Try.func92, Try.ntmps92
  go_wp2_with fail
  refine K.mono ?_
  rintro e wx ⟨rfl, hwx⟩
  obtain rfl := hwx.symm
  unfold gives
  go_wp2_with fail
  exact ⟨rfl, rfl, rfl⟩

set_option maxRecDepth 100000 in
set_option maxHeartbeats 1000000 in
theorem take_cons (w0 w : World) (R m : Nat) (b : Nat) (bs : List Nat) (room : Int) (h : Rd w0 w R m (b :: bs) room) :
    Calls Try.prog 92 #[.pointer (some ⟨R, 0, none⟩)] w fun e w' => e = .returned (.int .u8 b) ∧ Rd w0 w' R m bs room ∧ RF R w w' := by
  have K := peek_cons w0 w R m b bs room h
  obtain ⟨a, cp, h1, h2, h4⟩ := h.box
  have h3 := src_at h2 (j := 0) (by simp)
  obtain ⟨g, off, rfl, hc⟩ := h3
  have c0 : w.cell? ⟨R, 0, none⟩ = some (.slice (some ⟨g, off, none⟩) (bs.length + 1) cp) := cell_of_block h1 rfl
  have f0 : w.frozen? ⟨R, 0, none⟩ = false := frozen_of_block h1
  have hl : ((bs.length + 1 : Nat) : Int) ≤ 140737488355328 := by have := h.len; simp at this; omega
  simp only [List.length_cons] at h2 h4
  have hd := src_drop h2 (n := 1) (by omega)
  simp only [List.drop_one, List.tail_cons, Nat.add_sub_cancel] at hd
  have HD : Hid (Rd w0 (w.setCell ⟨R, 0, none⟩ (.slice (some ⟨g, off + 1, none⟩) bs.length (cp - 1))) R m bs room) := rd_store h rfl hd (by omega) (fun c hc => List.mem_cons_of_mem _ hc) (by simp)
  have HZ : Hid (bs.length = 0 → Rd w0 (w.setCell ⟨R, 0, none⟩ (.slice (some ⟨g, off, none⟩) 0 (cp - 1))) R m bs room) := fun hz => by
    have e : bs = [] := List.length_eq_zero_iff.1 hz
    subst e
    exact rd_store h rfl (src_zero _ _ _) (Nat.zero_le _) (fun c hc => by cases hc) (by simp)
  obtain ⟨M, hM⟩ : ∃ M, M = bs.length + 1 := ⟨_, rfl⟩
  have hM' : bs.length = M - 1 := by omega
  rw [← hM] at c0 hl h4
  have HD' : Hid (Rd w0 (w.setCell ⟨R, 0, none⟩ (.slice (some ⟨g, off + 1, none⟩) (M - 1) (cp - 1))) R m bs room) := by rw [← hM']; exact HD.out
  have HZ' : Hid (M = 1 → Rd w0 (w.setCell ⟨R, 0, none⟩ (.slice (some ⟨g, off, none⟩) (M - 1) (cp - 1))) R m bs room) := fun hz => by subst hz; exact HZ.out (by omega)
  have hM1 : 1 ≤ M := by omega
  have hM2 : M ≤ cp := h4
  have hM3 : M ≤ 140737488355328 := by omega
  clear hM hM' h2 hd h1 h4 hc hl HD HZ h
  go_enter Try.func92, Try.ntmps92
  go_wp2_with fail
  refine K.mono ?_
  rintro e wx ⟨rfl, hwx⟩
  obtain rfl := hwx.symm
  clear K
  go_wp2_with fail
  all_goals (
    go_ret
    first | exact ⟨rfl, HD'.out, RF.setCell _ _ _⟩ | exact ⟨rfl, by have h0 := HZ'.out (by omega); rwa [show cp - 1 = 0 by omega] at h0, RF.setCell _ _ _⟩)

/-- a contract of a taker: what is told of the bytes, or how it is given up; all but the reader's box stays -/
def Takes {α : Type} (f : FuncId) (args : Array Value) (w0 w : World) (R m : Nat) (room : Int) (res : Except Bool (α × List Nat)) (val : α → Value) : Prop :=
  Calls Try.prog f args w fun e w' => RF R w w' ∧ match res with
    | .ok (a, rest) => e = .returned (val a) ∧ Rd w0 w' R m rest room
    | .error s => e = gives s

theorem take_any (w0 w : World) (R m : Nat) (bs : List Nat) (room : Int) (h : Rd w0 w R m bs room) : Takes 92 #[.pointer (some ⟨R, 0, none⟩)] w0 w R m room (rTake bs) (fun b : Nat => .int .u8 b) := by
  cases bs with
  | nil => exact (take_nil w0 w R m room h).mono fun e w' ⟨h1, h2⟩ => ⟨by rw [h2]; exact RF.refl _ _, h1⟩
  | cons b bs => exact (take_cons w0 w R m b bs room h).mono fun e w' ⟨h1, h2, h3⟩ => ⟨h3, h1, h2⟩

def rHalves : List Nat → Except Bool ((Nat × Nat) × List Nat)
  | [] => .error true
  | b :: r => .ok ((b / 16, b % 16), r)
set_option maxRecDepth 10000 in
set_option maxHeartbeats 1000000 in
theorem takeHalves_any (w0 w : World) (R m : Nat) (bs : List Nat) (room : Int) (h : Rd w0 w R m bs room) : Takes 97 #[.pointer (some ⟨R, 0, none⟩)] w0 w R m room (rHalves bs) (fun p : Nat × Nat => .tuple #[.int .i64 (p.1 : Nat), .int .i64 (p.2 : Nat)]) := by
  cases bs with
  | nil =>
    have K := take_nil w0 w R m room h
    show Calls Try.prog 97 _ w fun e w' => RF R w w' ∧ e = gives true
    go_enter Try.func97, Try.ntmps97
    go_wp2_with fail
    refine K.mono ?_
    rintro e wx ⟨rfl, hwx⟩
    obtain rfl := hwx.symm
    unfold gives
    go_wp2_with fail
    exact ⟨rfl, RF.refl _ _, rfl⟩
  | cons b bs =>
    have K := take_cons w0 w R m b bs room h
    have hb' : b < 256 := h.b8 b (by simp)
    have hb1 : (b : Int) < 256 := by omega
    show Calls Try.prog 97 _ w fun e w' => RF R w w' ∧ (e = .returned (.tuple #[.int .i64 ((b / 16 : Nat) : Int), .int .i64 ((b % 16 : Nat) : Int)]) ∧ Rd w0 w' R m bs room)
    obtain ⟨q, hq⟩ : ∃ q : Nat, q = b / 16 := ⟨_, rfl⟩
    obtain ⟨r, hr⟩ : ∃ r : Nat, r = b % 16 := ⟨_, rfl⟩
    have e1 : (b : Int) / 16 = (q : Int) := by omega
    have e2 : (b : Int) % 16 = (r : Int) := by omega
    rw [← hq, ← hr]
    clear hq hr
    go_enter Try.func97, Try.ntmps97
    go_wp2_with fail
    refine K.mono ?_
    rintro e wx ⟨rfl, hrd, hf⟩
    go_wp2_with fail
    go_ret2
    exact ⟨hf, by rw [e2]; rfl, hrd⟩

theorem conv_empty (W : World) (p : Addr) (c : Nat) : Sem.run Try.prog (convert 37 9 (.slice (some p) 0 c)) W = .ok (.string (strOfNums [])) W := by
  have hl : (loadCells p 0).run Try.prog W = .ok #[] W := by
    simp [loadCells, go_sem]
  rw [run_convert_bytes_string W 37 9 5 _ 0 c Try.underlying37 Try.underlying5 Try.underlying9, run_bytesToString W _ 0 c [] (by simpa using hl)]
  simp [strOfNums]
  rfl
theorem str_src {w : World} {a : Option Addr} {len c : Nat} {l : List Nat} (h : Src w a len c (c8 l)) : Sem.run Try.prog (convert 37 9 (.slice a len c)) w = .ok (.string (strOfNums (l.map fun n : Nat => (n : Int)))) w := by
  have hll : l.length = len := by have := h.1; rwa [c8_len] at this
  rcases h.2 with ⟨rfl, rfl, rfl⟩ | ⟨p, rfl, _⟩
  · have e : l = [] := by simpa using hll
    subst e
    exact run_convert_bytes_nil w 37 5 Try.underlying37 Try.underlying5 0 0 9 Try.underlying9
  · rcases Nat.eq_zero_or_pos len with rfl | hl
    · have e : l = [] := by simpa using hll
      subst e
      exact conv_empty w p c
    · obtain ⟨g, off, e, _⟩ := src_at h hl
      cases e
      refine run_convert_bytes_arg w 37 5 Try.underlying37 Try.underlying5 g off len c _ (by simpa using hll) (fun i hi => ?_) 9 Try.underlying9
      obtain ⟨g', off', e', hc⟩ := src_at h hi
      cases e'
      rw [hc]
      have hx : i < l.length := by omega
      simp [List.getD, List.getElem?_eq_getElem hx]

/-- the bytes of a text -/
def txt (l : List Nat) : ByteArray := strOfNums (l.map fun n : Nat => (n : Int))
def rText (n : Nat) (bs : List Nat) : Except Bool (ByteArray × List Nat) := if bs.length < n then .error true else .ok (txt (bs.take n), bs.drop n)
theorem src_take {w : World} {a : Option Addr} {len cap n : Nat} {l : List Nat} (h : Src w a len cap (c8 l)) (hn : n ≤ len) : Src w a n cap (c8 (l.take n)) := by
  have hl : l.length = len := by have := h.1; rwa [c8_len] at this
  refine ⟨by rw [c8_len, List.length_take]; omega, ?_⟩
  rcases h.2 with ⟨h1, h2, h3⟩ | ⟨p, h1, h2⟩
  · exact .inl ⟨h1, by omega, h3⟩
  · refine .inr ⟨p, h1, fun j u hj => h2 j u ?_⟩
    have e : c8 (l.take n) = (c8 l).take n := by simp [c8, List.map_take]
    rw [e, List.getElem?_take] at hj
    split at hj
    · exact hj
    · cases hj

set_option maxRecDepth 100000 in
set_option maxHeartbeats 2000000 in
theorem takeText_short (w0 w : World) (R m : Nat) (bs : List Nat) (room : Int) (n : Nat) (hn : n ≤ 1048576) (hs : bs.length < n) (h : Rd w0 w R m bs room) :
    Calls Try.prog 95 #[.pointer (some ⟨R, 0, none⟩), .int .i64 n] w fun e w' => RF R w w' ∧ e = gives true := by
  obtain ⟨a, cp, h1, h2, h4⟩ := h.box
  have c0 : w.cell? ⟨R, 0, none⟩ = some (.slice a bs.length cp) := cell_of_block h1 rfl
  have hs' : (bs.length : Int) < (n : Int) := by omega
  go_enter Try.func95, Try.ntmps95
  go_wp2
  exact ⟨rfl, RF.refl _ _, rfl⟩
set_option maxRecDepth 100000 in
set_option maxHeartbeats 2000000 in
theorem takeText_zero (w0 w : World) (R m : Nat) (room : Int) (bs : List Nat) (h : Rd w0 w R m bs room) :
    Calls Try.prog 95 #[.pointer (some ⟨R, 0, none⟩), .int .i64 0] w fun e w' => RF R w w' ∧ (e = .returned (.string (txt [])) ∧ Rd w0 w' R m bs room) := by
  obtain ⟨a, cp, h1, h2, h4⟩ := h.box
  have c0 : w.cell? ⟨R, 0, none⟩ = some (.slice a bs.length cp) := cell_of_block h1 rfl
  have f0 : w.frozen? ⟨R, 0, none⟩ = false := frozen_of_block h1
  have S1 : Sem.run Try.prog (convert 37 9 (.slice a 0 cp)) w = .ok (.string (txt (bs.take 0))) w := str_src (w := w) ((src_take h2 (Nat.zero_le _)).later h.old)
  simp only [List.take_zero] at S1
  have HD : Hid (Rd w0 (w.setCell ⟨R, 0, none⟩ (.slice a bs.length cp)) R m bs room) := rd_store h rfl h2 h4 (fun c hc => hc) (Nat.le_refl _)
  have hcp : bs.length ≤ cp := h4
  generalize txt [] = T at *
  generalize bs.length = L at *
  clear h1 h2 h4
  go_enter Try.func95, Try.ntmps95
  go_wp2
  go_ret
  exact ⟨RF.setCell _ _ _, rfl, HD.out⟩

set_option maxRecDepth 100000 in
set_option maxHeartbeats 2000000 in
theorem takeText_some (w0 w : World) (R m : Nat) (room : Int) (bs : List Nat) (n : Nat) (hn : n ≤ 1048576) (hn0 : 1 ≤ n) (hs : n ≤ bs.length) (h : Rd w0 w R m bs room) :
    Calls Try.prog 95 #[.pointer (some ⟨R, 0, none⟩), .int .i64 n] w fun e w' => RF R w w' ∧ (e = .returned (.string (txt (bs.take n))) ∧ Rd w0 w' R m (bs.drop n) room) := by
  obtain ⟨a, cp, h1, h2, h4⟩ := h.box
  obtain ⟨g, off, rfl, _⟩ := src_at h2 (j := 0) (by omega)
  have c0 : w.cell? ⟨R, 0, none⟩ = some (.slice (some ⟨g, off, none⟩) bs.length cp) := cell_of_block h1 rfl
  have f0 : w.frozen? ⟨R, 0, none⟩ = false := frozen_of_block h1
  have S1 : Sem.run Try.prog (convert 37 9 (.slice (some ⟨g, off, none⟩) n cp)) w = .ok (.string (txt (bs.take n))) w := str_src (w := w) ((src_take h2 hs).later h.old)
  have HLD : Hid ((bs.drop n).length = bs.length - n) := List.length_drop
  have HSUB : Hid (∀ c ∈ bs.drop n, c ∈ bs) := fun c hc => List.mem_of_mem_drop hc
  have HD : Hid (Rd w0 (w.setCell ⟨R, 0, none⟩ (.slice (some ⟨g, off + n, none⟩) (bs.length - n) (cp - n))) R m (bs.drop n) room) := rd_store h HLD.out (src_drop h2 hs) (by omega) HSUB.out (by rw [HLD.out]; omega)
  have HZ : Hid (cp = n → Rd w0 (w.setCell ⟨R, 0, none⟩ (.slice (some ⟨g, off, none⟩) (bs.length - n) 0)) R m (bs.drop n) room) := fun hq => by
    have e0 : bs.length - n = 0 := by omega
    have e : bs.drop n = [] := List.drop_eq_nil_of_le (by omega)
    rw [e, e0]
    exact rd_store h rfl (src_zero _ _ _) (Nat.zero_le _) (fun c hc => by cases hc) (by simp)
  have hcp : bs.length ≤ cp := h4
  have hl := h.len
  generalize txt (bs.take n) = T at *
  obtain ⟨L, hL⟩ : ∃ L, L = bs.length := ⟨_, rfl⟩
  rw [← hL] at c0 hcp hl hs HD HZ
  clear hL HLD h1 h2 h4 h
  have hs' : (n : Int) ≤ (L : Int) := by omega
  have hcp' : (L : Int) ≤ (cp : Int) := by omega
  go_enter Try.func95, Try.ntmps95
  go_wp2
  all_goals (
    go_ret
    first | exact ⟨RF.setCell _ _ _, rfl, HD.out⟩ | exact ⟨RF.setCell _ _ _, rfl, HZ.out (by omega)⟩)

theorem takeText_any (w0 w : World) (R m : Nat) (bs : List Nat) (room : Int) (n : Nat) (hn : n ≤ 1048576) (h : Rd w0 w R m bs room) : Takes 95 #[.pointer (some ⟨R, 0, none⟩), .int .i64 n] w0 w R m room (rText n bs) (fun s : ByteArray => .string s) := by
  unfold Takes rText
  by_cases hs : bs.length < n
  · rw [if_pos hs]
    exact takeText_short w0 w R m bs room n hn hs h
  · rw [if_neg hs]
    by_cases h0 : n = 0
    · subst h0
      exact takeText_zero w0 w R m room bs h
    · exact takeText_some w0 w R m room bs n hn (by omega) (by omega) h
end Go.Proofs.Ytikoddlidhefpaa

/-
  The reader's numbers.
-/
namespace Go.Proofs.Ytikoddlidhefpaa
set_option linter.unusedVariables false
open Go.ChangeShapes Go.WideShapes Go.ChangeAt Go.RowKit Go.Deep

theorem mustGoOn_70 (w : World) (n least most : Nat) (h1 : n ≤ most) (h2 : (most : Int) ≤ 18446744073709551615) :
    Calls Try.prog 102 #[.int .u64 n, .int .i64 70, .int .u64 least, .int .u64 most] w fun e w' => w' = w ∧ e = gives false := by
  obtain ⟨D, hD⟩ : ∃ D : Nat, (most : Int) - n = D := ⟨most - n, by omega⟩
  have hD2 : (D : Int) ≤ 18446744073709551615 := by omega
  go_enter Try.func102, Try.ntmps102
  go_wp2
  all_goals exact ⟨rfl, rfl, rfl⟩
set_option maxRecDepth 10000 in
set_option maxHeartbeats 1000000 in
theorem mustGoOn_lo (w : World) (n s least most : Nat) (h1 : n ≤ most) (h2 : (most : Int) ≤ 18446744073709551615) (h3 : s < 64) (h4 : (least : Int) ≤ 18446744073709551615) :
    Calls Try.prog 102 #[.int .u64 n, .int .i64 s, .int .u64 least, .int .u64 most] w fun e w' => w' = w ∧ e = if (most - n) / 2 ^ s = 0 ∨ n + (most - n) / 2 ^ s * 2 ^ s < least then gives false else .returned (.tuple #[]) := by
  obtain ⟨D, hD⟩ : ∃ D : Nat, D = most - n := ⟨_, rfl⟩
  have x0 : (most : Int) - n = D := by omega
  obtain ⟨G, hG⟩ : ∃ G : Nat, G = D / 2 ^ s := ⟨_, rfl⟩
  have hm : min s 64 = s := by omega
  have x1 : (D : Int) / 2 ^ s = (G : Int) := by rw [hG]; simp
  obtain ⟨H, hH⟩ : ∃ H : Nat, H = G * 2 ^ s := ⟨_, rfl⟩
  have hHD : H ≤ D := by rw [hH, hG]; exact Nat.div_mul_le_self _ _
  rw [← hD, ← hG, ← hH]
  have hs' : (s : Int) < 64 := by omega
  clear hD hG
  by_cases hz : G = 0
  · subst hz
    rw [if_pos (.inl rfl)]
    go_enter Try.func102, Try.ntmps102
    go_wp2
    exact ⟨rfl, rfl, rfl⟩
  have hz' : ¬ (G : Int) = 0 := by omega
  have y1 : IntKind.u64.wrap ((G : Int) * 2 ^ s) = (H : Int) := by
    have e : (G : Int) * 2 ^ s = ((G * 2 ^ s : Nat) : Int) := by simp
    rw [e, ← hH, IntKind.wrap_u64]
    omega
  obtain ⟨N, hN⟩ : ∃ N : Nat, N = n + H := ⟨_, rfl⟩
  have y2 : IntKind.u64.wrap ((n : Int) + (H : Int)) = (N : Int) := by rw [IntKind.wrap_u64]; omega
  rw [← hN]
  clear hH hN
  by_cases hl : N < least
  · rw [if_pos (.inr hl)]
    have hl' : (N : Int) < (least : Int) := by omega
    go_enter Try.func102, Try.ntmps102
    go_wp2
    exact ⟨rfl, rfl, rfl⟩
  · rw [if_neg (by omega)]
    have hl' : (least : Int) ≤ (N : Int) := by omega
    go_enter Try.func102, Try.ntmps102
    go_wp2
    go_end0
    exact ⟨rfl, rfl⟩

/-- a number, from a least one to a greatest: each byte is such that one may still come of it -/
def rNumF (least most : Nat) : Nat → Nat → Nat → List Nat → Except Bool (Nat × List Nat)
  | _, _, _, [] => .error true
  | 0, _, _, _ :: _ => .error false
  | f + 1, n, s, c :: r =>
    if (most - n) / 2 ^ s < c % 128 then .error false
    else if 128 ≤ c then
      if (most - (n + c % 128 * 2 ^ s)) / 2 ^ (s + 7) = 0 ∨ n + c % 128 * 2 ^ s + (most - (n + c % 128 * 2 ^ s)) / 2 ^ (s + 7) * 2 ^ (s + 7) < least then .error false
      else rNumF least most f (n + c % 128 * 2 ^ s) (s + 7) r
    else if n + c % 128 * 2 ^ s < least ∨ (c % 128 = 0 ∧ 0 < s) then .error false else .ok (n + c % 128 * 2 ^ s, r)
def rNum (least most : Nat) (bs : List Nat) : Except Bool (Nat × List Nat) := rNumF least most 10 0 0 bs

theorem andNot128 (c : Nat) (h : c < 256) : bits .andNot .u8 (c : Int) 128 = ((c % 128 : Nat) : Int) := by
  have : ∀ m : Fin 256, bits .andNot .u8 ((m.val : Nat) : Int) 128 = ((m.val % 128 : Nat) : Int) := by decide +kernel
  exact this ⟨c, h⟩
theorem or_add (n d s : Nat) (hn : n < 2 ^ s) (h : n + d * 2 ^ s < 18446744073709551616) : bits .or .u64 (n : Int) ((d * 2 ^ s : Nat) : Int) = ((n + d * 2 ^ s : Nat) : Int) := by
  have h1 := u64_or_nat n (d * 2 ^ s) (by omega) (by omega)
  rw [h1]
  have h2 := Nat.two_pow_add_eq_or_of_lt hn d
  rw [Nat.mul_comm d, Nat.or_comm, ← h2, Nat.add_comm]

theorem takes_of {α : Type} {f : FuncId} {args : Array Value} {w0 w : World} {R m : Nat} {room : Int} {res : Except Bool (α × List Nat)} {val : α → Value}
    (H : ∀ Q : Ending → World → Prop, (∀ a rest w', res = .ok (a, rest) → RF R w w' → Rd w0 w' R m rest room → Q (.returned (val a)) w') → (∀ s w', res = .error s → RF R w w' → Q (gives s) w') → Calls Try.prog f args w Q) : Takes f args w0 w R m room res val := by
  unfold Takes
  refine H _ ?_ ?_
  · intro a rest w' e h1 h2
    subst e
    exact ⟨h1, rfl, h2⟩
  · intro s w' e h1
    subst e
    exact ⟨h1, rfl⟩
theorem Takes.ok {α : Type} {f : FuncId} {args : Array Value} {w0 w : World} {R m : Nat} {room : Int} {res : Except Bool (α × List Nat)} {val : α → Value} {a : α} {rest : List Nat} (h : Takes f args w0 w R m room res val) (e : res = .ok (a, rest)) :
    Calls Try.prog f args w fun e w' => e = .returned (val a) ∧ Rd w0 w' R m rest room ∧ RF R w w' := by
  subst e
  exact Calls.mono h fun e w' ⟨h1, h2, h3⟩ => ⟨h2, h3, h1⟩
theorem Takes.no {α : Type} {f : FuncId} {args : Array Value} {w0 w : World} {R m : Nat} {room : Int} {res : Except Bool (α × List Nat)} {val : α → Value} {s : Bool} (h : Takes f args w0 w R m room res val) (e : res = .error s) :
    Calls Try.prog f args w fun e w' => e = gives s ∧ RF R w w' := by
  subst e
  exact Calls.mono h fun e w' ⟨h1, h2⟩ => ⟨h2, h1⟩

set_option maxRecDepth 100000 in
set_option maxHeartbeats 1000000 in
theorem takeNumber_any (w0 w : World) (R m : Nat) (bs : List Nat) (room : Int) (least most : Nat) (h1 : least ≤ 18446744073709551615) (h2 : most ≤ 18446744073709551615) (h : Rd w0 w R m bs room) : Takes 94 #[.pointer (some ⟨R, 0, none⟩), .int .u64 least, .int .u64 most] w0 w R m room (rNum least most bs) (fun n : Nat => .int .u64 n) := by
  refine takes_of fun Q QOK QNO => ?_
  obtain ⟨res, HR⟩ : ∃ r, Hid (rNum least most bs = r) := ⟨_, rfl⟩
  rw [HR.out] at QOK QNO
  have h1' : (least : Int) ≤ 18446744073709551615 := by omega
  have h2' : (most : Int) ≤ 18446744073709551615 := by omega
  go_enter Try.func94, Try.ntmps94
  go_wp2_with fail
  go_loopw [7, 8] (fun nv sv wr => ∃ (n j : Nat) (l : List Nat), nv = .int .u64 n ∧ sv = .int .i64 ((7 * j : Nat) : Int) ∧ j ≤ 9 ∧ Hid (n < 2 ^ (7 * j) ∧ n ≤ most ∧ rNumF least most (10 - j) n (7 * j) l = res) ∧ Hid (Rd w0 wr R m l room) ∧ RF R w wr) (fun _ sv _ => 70 - (intOf sv).toNat)
  case atStart => exact ⟨0, 0, bs, rfl, rfl, by omega, ⟨by simp, Nat.zero_le _, HR.out⟩, h, RF.refl _ _⟩
  case round =>
    obtain ⟨n, j, l, rfl, rfl, hj, HN, HD, hf⟩ := hrel
    obtain ⟨f, hf10⟩ : ∃ f, 10 - j = f + 1 := ⟨9 - j, by omega⟩
    cases l with
    | nil =>
      have K := take_nil w0 wr R m room HD.out
      have HE : Hid (res = .error true) := by
        show _ = _
        rw [← HN.out.2.2, hf10]
        rfl
      go_wp2_with fail
      refine K.mono ?_
      rintro e wx ⟨rfl, hwx⟩
      obtain rfl := hwx.symm
      unfold gives
      go_wp2_with fail
      exact ⟨rfl, QNO true _ HE.out hf⟩
    | cons c l =>
      have K := take_cons w0 wr R m c l room HD.out
      have hc := HD.out.b8 c (by simp)
      obtain ⟨n1, n2, n3⟩ := HN.out
      rw [hf10] at n3
      obtain ⟨s, hs⟩ : ∃ s : Nat, s = 7 * j := ⟨_, rfl⟩
      rw [← hs] at n1 n3
      have hsj : s ≤ 63 := by omega
      have hs64 : s < 64 := by omega
      have hsi : (7 : Int) * (j : Int) = (s : Int) := by omega
      have hmin : min s 64 = s := by omega
      obtain ⟨d, hd⟩ : ∃ d : Nat, d = c % 128 := ⟨_, rfl⟩
      have a1 := andNot128 c hc
      rw [← hd] at a1
      have hd2 : d < 128 := by omega
      obtain ⟨D, hD⟩ : ∃ D : Nat, D = most - n := ⟨_, rfl⟩
      have x0 : (most : Int) - n = D := by omega
      obtain ⟨G, hG⟩ : ∃ G : Nat, G = D / 2 ^ s := ⟨_, rfl⟩
      have x1 : (D : Int) / 2 ^ s = (G : Int) := by rw [hG]; simp
      have HS := n3
      simp only [rNumF] at HS
      rw [← hd, ← hD, ← hG] at HS
      have hc' : (c : Int) < 256 := by omega
      by_cases b1 : G < d
      · have HE : Hid (res = .error false) := by show _ = _; rw [← HS, if_pos b1]
        have b1' : (G : Int) < (d : Int) := by omega
        clear HS n3 HN hd hD hG hs hf10
        go_wp2_with fail
        refine K.mono ?_
        rintro e wx ⟨rfl, hrd, hfx⟩
        go_wp2_with fail
        exact ⟨rfl, QNO false _ HE.out (hf.trans hfx)⟩
      rw [if_neg b1] at HS
      have b1' : (d : Int) ≤ (G : Int) := by omega
      obtain ⟨S, hS⟩ : ∃ S : Nat, S = d * 2 ^ s := ⟨_, rfl⟩
      have hSD : S ≤ D := by
        rw [hS]
        have h3 : d * 2 ^ s ≤ G * 2 ^ s := Nat.mul_le_mul_right _ (by omega)
        have h4 : G * 2 ^ s ≤ D := by rw [hG]; exact Nat.div_mul_le_self _ _
        omega
      have y1 : IntKind.u64.wrap ((d : Int) * 2 ^ s) = (S : Int) := by
        have e : (d : Int) * 2 ^ s = ((d * 2 ^ s : Nat) : Int) := by simp
        rw [e, ← hS, IntKind.wrap_u64]
        omega
      obtain ⟨N, hN⟩ : ∃ N : Nat, N = n + S := ⟨_, rfl⟩
      have y2 : bits .or .u64 (n : Int) (S : Int) = (N : Int) := by
        have := or_add n d s n1 (by rw [← hS]; omega)
        rw [← hS, ← hN] at this
        exact this
      rw [← hS, ← hN] at HS
      have hNm : N ≤ most := by omega
      have hN7 : N < 2 ^ (s + 7) := by
        rw [hN, hS, Nat.pow_add]
        have h3 : d * 2 ^ s ≤ 127 * 2 ^ s := Nat.mul_le_mul_right _ (by omega)
        generalize 2 ^ s = z at *
        omega
      by_cases b2 : 128 ≤ c
      · rw [if_pos b2] at HS
        have b2' : (128 : Int) ≤ (c : Int) := by omega
        obtain ⟨T, hT⟩ : ∃ T : Nat, T = s + 7 := ⟨_, rfl⟩
        have hTi : (s : Int) + 7 = (T : Int) := by omega
        rw [← hT] at HS hN7
        have M : ∀ W, Calls Try.prog 102 #[.int .u64 N, .int .i64 T, .int .u64 least, .int .u64 most] W fun e w' => w' = W ∧ e = if (most - N) / 2 ^ T = 0 ∨ N + (most - N) / 2 ^ T * 2 ^ T < least then gives false else .returned (.tuple #[]) := by
          intro W
          by_cases h63 : T < 64
          · exact mustGoOn_lo W N T least most hNm h2' h63 h1'
          · have e : T = 70 := by omega
            subst e
            have e0 : (most - N) / 2 ^ 70 = 0 := Nat.div_eq_of_lt (by have : (2 : Nat) ^ 70 = 1180591620717411303424 := by decide
                                                                      omega)
            rw [if_pos (.inl e0)]
            exact mustGoOn_70 W N least most hNm h2'
        by_cases b3 : (most - N) / 2 ^ T = 0 ∨ N + (most - N) / 2 ^ T * 2 ^ T < least
        · have HE : Hid (res = .error false) := by show _ = _; rw [← HS, if_pos b3]
          rw [if_pos b3] at M
          clear HS n3 HN hd hD hG hs hf10 hS hN hN7 n1 b3 hT
          go_wp2_with fail
          refine K.mono ?_
          rintro e wx ⟨rfl, hrd, hfx⟩
          go_wp2_with fail
          refine (M _).mono ?_
          rintro e wy ⟨hwy, rfl⟩
          obtain rfl := hwy.symm
          unfold gives
          go_wp2_with fail
          exact ⟨rfl, QNO false _ HE.out (hf.trans hfx)⟩
        · have HS' : Hid (rNumF least most f N T l = res) := by show _ = _; rw [if_neg b3] at HS; exact HS
          have hj9 : j + 1 ≤ 9 := by
            rcases Nat.lt_or_ge j 9 with h9 | h9
            · omega
            · exfalso
              apply b3
              left
              have e : T = 70 := by omega
              rw [e]
              exact Nat.div_eq_of_lt (by have : (2 : Nat) ^ 70 = 1180591620717411303424 := by decide
                                         omega)
          rw [if_neg b3] at M
          have HN' : Hid (N < 2 ^ (7 * (j + 1)) ∧ N ≤ most ∧ rNumF least most (10 - (j + 1)) N (7 * (j + 1)) l = res) := by
            have e1 : 7 * (j + 1) = T := by omega
            have e2 : 10 - (j + 1) = f := by omega
            rw [e1, e2]
            exact ⟨hN7, hNm, HS'.out⟩
          have hTj : (T : Int) = ((7 * (j + 1) : Nat) : Int) := by omega
          have HTJ : Hid ((T : Int) = ((7 * (j + 1) : Nat) : Int)) := hTj
          clear HS n3 HN hd hD hG hf10 hS hN hN7 n1 b3 hTj HS' hT hs
          go_wp2_with fail
          refine K.mono ?_
          rintro e wx ⟨rfl, hrd, hfx⟩
          go_wp2_with fail
          refine (M _).mono ?_
          rintro e wy ⟨hwy, rfl⟩
          obtain rfl := hwy.symm
          go_wp2_with fail
          go_roundw
          case rel => exact ⟨N, j + 1, l, rfl, by rw [HTJ.out], by omega, HN', hrd, hf.trans hfx⟩
          case measure => have := HTJ.out; simp [intOf]; omega
      · rw [if_neg b2] at HS
        have b2' : (c : Int) < 128 := by omega
        by_cases b3 : N < least
        · have HE : Hid (res = .error false) := by show _ = _; rw [← HS, if_pos (.inl b3)]
          have b3' : (N : Int) < (least : Int) := by omega
          clear HS n3 HN hd hD hG hs hf10 hS hN hN7 n1
          go_wp2_with fail
          refine K.mono ?_
          rintro e wx ⟨rfl, hrd, hfx⟩
          go_wp2_with fail
          exact ⟨rfl, QNO false _ HE.out (hf.trans hfx)⟩
        have b3' : (least : Int) ≤ (N : Int) := by omega
        by_cases b4 : d = 0 ∧ 0 < s
        · have HE : Hid (res = .error false) := by show _ = _; rw [← HS, if_pos (.inr b4)]
          obtain ⟨b4, b5⟩ := b4
          have b5' : (0 : Int) < (s : Int) := by omega
          have b4' : (d : Int) = 0 := by omega
          have y3 : bits .or .u64 (n : Int) 0 = (N : Int) := by have h0 : S = 0 := by rw [hS, b4]; simp
                                                                rw [h0] at y2; exact y2
          clear HS n3 HN hD hG hs hf10 hN7 n1 hS hN hd b4
          go_wp2_with fail
          refine K.mono ?_
          rintro e wx ⟨rfl, hrd, hfx⟩
          go_wp2_with fail
          exact ⟨rfl, QNO false _ HE.out (hf.trans hfx)⟩
        · have HE : Hid (res = .ok (N, l)) := by show _ = _; rw [← HS, if_neg (by omega)]
          by_cases b5 : d = 0
          · have b6 : s = 0 := by omega
            have b6' : (s : Int) ≤ 0 := by omega
            have HB5 : Hid (d = 0) := b5
            have b5' : (d : Int) = 0 := by omega
            have y3 : bits .or .u64 (n : Int) 0 = (N : Int) := by have h0 : S = 0 := by rw [hS, b5]; simp
                                                                  rw [h0] at y2; exact y2
            clear HS n3 HN hD hG hs hf10 hN7 n1 hS hN b4 b6 b5 hd
            go_wp2_with fail
            refine K.mono ?_
            rintro e wx ⟨rfl, hrd, hfx⟩
            go_wp2_with fail
            exact QOK N l _ HE.out (hf.trans hfx) hrd
          · have b5' : ¬ (d : Int) = 0 := by omega
            clear HS n3 HN hD hG hs hf10 hN7 n1 hS hN b4 hd
            go_wp2_with fail
            refine K.mono ?_
            rintro e wx ⟨rfl, hrd, hfx⟩
            go_wp2_with fail
            exact QOK N l _ HE.out (hf.trans hfx) hrd
end Go.Proofs.Ytikoddlidhefpaa

/-
  Memory that a call itself made: rows in blocks of a set, values whose rows lie there; append tells whether its row is the old one or a new one.
-/
namespace Go.Proofs.Ytikoddlidhefpaa
set_option linter.unusedVariables false
open Go.ChangeShapes Go.WideShapes Go.ChangeAt Go.RowKit Go.Deep

theorem run_append_fresh {P : Program} (w : World) (base : Nat) (t ty e : TypeId) (i : TypeInfo) (z : Value) (size bytes : Nat) (ht : P.underlying t = some (.slice e)) (hi : P.info? e = some i) (hz : i.zero = some z)
    (hsize : i.size = size) (hby : i.bytes = bytes) (hzs : z.cells.size = size) (hsz : 0 < size)
    (v : Value) (n : Nat) (xs : List Value) (hown : w.ownsRow base e size v n xs)
    (a : Addr) (m c : Nat) (news : List Value) (hl : news.length = m * size) (hnews : ∀ j u, news[j]? = some u → w.cell? (a.add j) = some u) (h1 : ∀ u ∈ news, u.oneCell' = true)
    (h63 : n + m ≤ maxLen) (hbytes : (n + m) * bytes ≤ 140737488355328) (hbase : base ≤ w.heap.size) :
    ∃ v' w', (Builtin.append_ #[t, t] ty #[v, .slice (some a) m c]).run P w = .ok v' w' ∧ w'.ownsRow base e size v' (n + m) (xs ++ news) ∧ w.grownBy w' v.ownBlock ∧
      (v'.ownBlock = v.ownBlock ∨ w'.ownsRow w.heap.size e size v' (n + m) (xs ++ news)) := by
  obtain ⟨v', w', hr, h2, h3, _⟩ := run_append_own (P := P) w base t ty e i z size bytes ht hi hz hsize hby hzs hsz v n xs hown a m c news hl hnews h1 h63 hbytes hbase
  refine ⟨v', w', hr, h2, h3, ?_⟩
  rcases hown.2 with ⟨rfl, rfl⟩ | ⟨g, cap, cur, rfl, hb, hg, hn, hm, hcs, htk⟩
  · have hx : xs = [] := by have := hown.1; simpa using this
    subst hx
    obtain ⟨v2, w2, hr2, k2, _⟩ := run_append_own (P := P) w w.heap.size t ty e i z size bytes ht hi hz hsize hby hzs hsz (.slice none 0 0) 0 [] (World.ownsRow_nil w _ e size) a m c news hl hnews h1 h63 hbytes (Nat.le_refl _)
    rw [hr] at hr2
    cases hr2
    exact .inr k2
  · by_cases hroom : n + m ≤ cap
    · left
      subst hsize
      have hcell : ∀ j, j < news.length → (w.cell? ⟨g, 0 + n * i.size + j, none⟩).isSome = true := by
        intro j hj
        have hlt : 0 + n * i.size + j < cur.size := by
          have : (n + m) * i.size ≤ cap * i.size := Nat.mul_le_mul_right _ hroom
          rw [Nat.add_mul] at this
          omega
        rw [cell_of_block hg (Array.getElem?_eq_getElem hlt)]
        rfl
      have hr2 := run_append_room_cells (P := P) w t ty e i ht hi g 0 n cap a m c news hl hnews h1 hroom hcell (fun j hj => frozen_of_block hg)
      rw [hr] at hr2
      cases hr2
      rfl
    · right
      obtain ⟨v2, w2, hr2, k2, _⟩ := run_append_arg_grows (P := P) w t ty e i z size bytes ht hi hz hsize hby hzs hsz ⟨g, 0, none⟩ n cap xs hown.1 (fun j u hj => World.ownsRow.cells hown rfl j u hj) a m c news hl hnews (by omega) h63 hbytes
      rw [hr] at hr2
      cases hr2
      exact k2

/-- a row in a block of the set -/
def ownsS (S : Nat → Prop) (w : World) (e : TypeId) (size : Nat) (v : Value) (n : Nat) (xs : List Value) : Prop := w.ownsRow 0 e size v n xs ∧ ∀ g, v.ownBlock = some g → S g
theorem ownsS.mono {S T : Nat → Prop} {w : World} {e : TypeId} {size : Nat} {v : Value} {n : Nat} {xs : List Value} (h : ownsS S w e size v n xs) (hST : ∀ b, S b → T b) : ownsS T w e size v n xs := ⟨h.1, fun g hg => hST g (h.2 g hg)⟩
/-- it stays where the set's blocks stay -/
theorem ownsS.kept {S : Nat → Prop} {w w' : World} {e : TypeId} {size : Nat} {v : Value} {n : Nat} {xs : List Value} (h : ownsS S w e size v n xs) (hk : ∀ k, k < w.heap.size → S k → w'.heap[k]? = w.heap[k]?) : ownsS S w' e size v n xs := by
  refine ⟨⟨h.1.1, ?_⟩, h.2⟩
  rcases h.1.2 with h1 | ⟨g, cap, cur, rfl, hb, hg, rest⟩
  · exact .inl h1
  · refine .inr ⟨g, cap, cur, rfl, hb, ?_, rest⟩
    rw [hk g (Array.getElem?_eq_some_iff.1 hg).1 (h.2 g rfl), hg]

/-- the values of a row, cell by cell; their own rows lie in blocks of the set -/
def ElemsX (S : Nat → Prop) (w : World) : Fo → List Value → Prop
  | .nil, xs => xs = []
  | .node _ _ p c r, xs => ∃ iv lv rest, xs = [.int .i64 p.kind, .int .i64 p.key, .int .i64 p.elem, .int .i64 p.num, .string p.text, iv, lv] ++ rest ∧ PayOk p ∧ flen c ≤ 140737488355328 ∧ ownsS S w 3 1 iv p.ids.length (c64 p.ids) ∧ (∃ ys, ownsS S w 26 7 lv (flen c) ys ∧ ElemsX S w c ys) ∧ ElemsX S w r rest
/-- a value -/
def VX (S : Nat → Prop) (w : World) (p : Pay) (c : Fo) (v : Value) : Prop :=
  ∃ iv lv, v = .agg #[.int .i64 p.kind, .int .i64 p.key, .int .i64 p.elem, .int .i64 p.num, .string p.text, iv, lv] ∧ PayOk p ∧ flen c ≤ 140737488355328 ∧ ownsS S w 3 1 iv p.ids.length (c64 p.ids) ∧ ∃ ys, ownsS S w 26 7 lv (flen c) ys ∧ ElemsX S w c ys

theorem ElemsX.mono {S T : Nat → Prop} {w : World} (hST : ∀ b, S b → T b) : ∀ {f : Fo} {xs : List Value}, ElemsX S w f xs → ElemsX T w f xs
  | .nil, _, h => h
  | .node _ _ p c r, xs, h => by
    obtain ⟨iv, lv, rest, h1, h2, h3, h4, ⟨ys, h5, h6⟩, h7⟩ := h
    exact ⟨iv, lv, rest, h1, h2, h3, h4.mono hST, ⟨ys, h5.mono hST, ElemsX.mono hST h6⟩, ElemsX.mono hST h7⟩
theorem ElemsX.kept {S : Nat → Prop} {w w' : World} (hk : ∀ k, k < w.heap.size → S k → w'.heap[k]? = w.heap[k]?) : ∀ {f : Fo} {xs : List Value}, ElemsX S w f xs → ElemsX S w' f xs
  | .nil, _, h => h
  | .node _ _ p c r, xs, h => by
    obtain ⟨iv, lv, rest, h1, h2, h3, h4, ⟨ys, h5, h6⟩, h7⟩ := h
    exact ⟨iv, lv, rest, h1, h2, h3, h4.kept hk, ⟨ys, h5.kept hk, ElemsX.kept hk h6⟩, ElemsX.kept hk h7⟩
theorem VX.mono {S T : Nat → Prop} {w : World} {p : Pay} {c : Fo} {v : Value} (h : VX S w p c v) (hST : ∀ b, S b → T b) : VX T w p c v := by
  obtain ⟨iv, lv, h1, h2, h3, h4, ys, h5, h6⟩ := h
  exact ⟨iv, lv, h1, h2, h3, h4.mono hST, ys, h5.mono hST, h6.mono hST⟩
theorem VX.kept {S : Nat → Prop} {w w' : World} {p : Pay} {c : Fo} {v : Value} (h : VX S w p c v) (hk : ∀ k, k < w.heap.size → S k → w'.heap[k]? = w.heap[k]?) : VX S w' p c v := by
  obtain ⟨iv, lv, h1, h2, h3, h4, ys, h5, h6⟩ := h
  exact ⟨iv, lv, h1, h2, h3, h4.kept hk, ys, h5.kept hk, h6.kept hk⟩
/-- one more at the end of a row -/
def fsnoc : Fo → Pay → Fo → Fo
  | .nil, p, c => .node 0 0 p c .nil
  | .node b o q d r, p, c => .node b o q d (fsnoc r p c)
theorem flen_snoc : ∀ (f : Fo) (p : Pay) (c : Fo), flen (fsnoc f p c) = flen f + 1
  | .nil, _, _ => rfl
  | .node _ _ _ _ r, p, c => by simp [fsnoc, flen, flen_snoc r p c]
theorem ElemsX.snoc {S : Nat → Prop} {w : World} {p : Pay} {c : Fo} {iv lv : Value} {ys : List Value} (hp : PayOk p) (hl : flen c ≤ 140737488355328) (hi : ownsS S w 3 1 iv p.ids.length (c64 p.ids)) (hy : ownsS S w 26 7 lv (flen c) ys) (he : ElemsX S w c ys) :
    ∀ {f : Fo} {xs : List Value}, ElemsX S w f xs → ElemsX S w (fsnoc f p c) (xs ++ [.int .i64 p.kind, .int .i64 p.key, .int .i64 p.elem, .int .i64 p.num, .string p.text, iv, lv])
  | .nil, xs, h => by
    have h : xs = [] := h
    subst h
    exact ⟨iv, lv, [], by simp, hp, hl, hi, ⟨ys, hy, he⟩, rfl⟩
  | .node _ _ q d r, xs, h => by
    obtain ⟨jv, mv, rest, h1, h2, h3, h4, h5, h7⟩ := h
    exact ⟨jv, mv, rest ++ _, by rw [h1, List.append_assoc], h2, h3, h4, h5, ElemsX.snoc hp hl hi hy he h7⟩
theorem ElemsX.len {S : Nat → Prop} {w : World} : ∀ {f : Fo} {xs : List Value}, ElemsX S w f xs → xs.length = flen f * 7
  | .nil, xs, h => by have h : xs = [] := h; subst h; rfl
  | .node _ _ q d r, xs, h => by
    obtain ⟨jv, mv, rest, h1, _, _, _, _, h7⟩ := h
    have := ElemsX.len h7
    subst h1
    simp [flen, this]
    omega

/-- such values can be read -/
theorem fat_of {S : Nat → Prop} {w : World} : ∀ {f : Fo} {xs : List Value} {b o : Nat}, ElemsX S w f xs → b < w.heap.size → (∀ j u, xs[j]? = some u → w.cell? ⟨b, o + j, none⟩ = some u) → FAt w f (some ⟨b, o, none⟩)
  | .nil, _, _, _, _, _, _ => trivial
  | .node _ _ p c r, xs, b, o, h, hb, hc => by
    obtain ⟨iv, lv, rest, h1, h2, h3, h4, ⟨ys, h5, h6⟩, h7⟩ := h
    subst h1
    obtain ⟨ia, ic, rfl⟩ := own_sl h4.1
    obtain ⟨la, lc, rfl⟩ := own_sl h5.1
    refine ⟨b, o, rfl, hb, h2, h3, ⟨ia, ic, la, lc, fun j u hj => hc j u ?_, (src_own h4.1).2, ?_⟩, ?_⟩
    · have hlt : j < (cells7 p ia ic la (flen c) lc).length := by
        rcases Nat.lt_or_ge j (cells7 p ia ic la (flen c) lc).length with hh | hh
        · exact hh
        · rw [List.getElem?_eq_none hh] at hj; cases hj
      rw [List.getElem?_append_left (by simpa [cells7] using hlt)]
      exact hj
    · rcases h5.1.2 with ⟨e1, e2⟩ | ⟨g, cap, cur, e1, e2, e3, _⟩
      · cases c with
        | nil => trivial
        | node _ _ _ _ r => simp [flen] at e2
      · cases e1
        refine fat_of h6 (Array.getElem?_eq_some_iff.1 e3).1 fun j u hj => ?_
        have := World.ownsRow.cells h5.1 rfl j u hj
        rw [add0] at this
        rwa [Nat.zero_add]
    · refine fat_of h7 hb fun j u hj => ?_
      have := hc (7 + j) u (by rw [List.getElem?_append_right (by simp)]; simpa using hj)
      rw [← this]
      congr 2
      omega
theorem VX.vin {S : Nat → Prop} {w : World} {p : Pay} {c : Fo} {v : Value} (h : VX S w p c v) : ∃ ia ic la lc, v = val p c ia ic la lc ∧ VIn w p c ia ic la lc := by
  obtain ⟨iv, lv, h1, h2, h3, h4, ys, h5, h6⟩ := h
  obtain ⟨ia, ic, rfl⟩ := own_sl h4.1
  obtain ⟨la, lc, rfl⟩ := own_sl h5.1
  refine ⟨ia, ic, la, lc, h1, h2, h3, (src_own h4.1).2, ?_⟩
  rcases h5.1.2 with ⟨e1, e2⟩ | ⟨g, cap, cur, e1, e2, e3, _⟩
  · cases c with
    | nil => trivial
    | node _ _ _ _ r => simp [flen] at e2
  · cases e1
    refine fat_of h6 (Array.getElem?_eq_some_iff.1 e3).1 fun j u hj => ?_
    have := World.ownsRow.cells h5.1 rfl j u hj
    rw [add0] at this
    rwa [Nat.zero_add]
end Go.Proofs.Ytikoddlidhefpaa

/-
  The reader's values that hold no others.
-/
namespace Go.Proofs.Ytikoddlidhefpaa
set_option linter.unusedVariables false
open Go.ChangeShapes Go.WideShapes Go.ChangeAt Go.RowKit Go.Deep

abbrev RV := Except Bool ((Pay × Fo) × List Nat)
/-- a contract of a taker of values: its memory is new -/
def TakesV (f : FuncId) (args : Array Value) (w0 w : World) (R m : Nat) (room : Int) (res : RV) : Prop :=
  ∀ Q : Ending → World → Prop, (∀ p c rest w' v, res = .ok ((p, c), rest) → RF R w w' → Rd w0 w' R m rest room → VX (fun b => w.heap.size ≤ b) w' p c v → Q (.returned v) w') → (∀ s w', res = .error s → RF R w w' → Q (gives s) w') → Calls Try.prog f args w Q

def scal (k n : Int) : Pay := ⟨k, 0, 0, n, { data := #[] }, []⟩
theorem scal_ok {k n : Int} (hk : i64ok k) (hn : i64ok n) : PayOk (scal k n) := by
  have z0 : i64ok 0 := ⟨by omega, by omega⟩
  exact ⟨hk, z0, z0, hn, Nat.zero_le _, Nat.zero_le _, fun _ h => by cases h⟩
theorem vx_leaf {S : Nat → Prop} {w : World} {p : Pay} (hp : PayOk p) (hi : p.ids = []) : VX S w p .nil (.agg #[.int .i64 p.kind, .int .i64 p.key, .int .i64 p.elem, .int .i64 p.num, .string p.text, .slice none 0 0, .slice none 0 0]) := by
  refine ⟨_, _, rfl, hp, Nat.zero_le _, ⟨?_, fun g h => by cases h⟩, [], ⟨World.ownsRow_nil _ _ _ _, fun g h => by cases h⟩, rfl⟩
  rw [hi]
  exact World.ownsRow_nil _ _ _ _

/-- a block of seven cells, none of them frozen: what the walk asks of a store into it -/
theorem blk7 {w : World} {b : Nat} {x0 x1 x2 x3 x4 x5 x6 : Value} {t : TypeId} (h : w.heap[b]? = some (.cells #[x0, x1, x2, x3, x4, x5, x6] t (0, 0))) :
    (w.cell? ⟨b, 0, none⟩ = some x0 ∧ w.cell? ⟨b, 1, none⟩ = some x1 ∧ w.cell? ⟨b, 2, none⟩ = some x2 ∧ w.cell? ⟨b, 3, none⟩ = some x3 ∧ w.cell? ⟨b, 4, none⟩ = some x4 ∧ w.cell? ⟨b, 5, none⟩ = some x5 ∧ w.cell? ⟨b, 6, none⟩ = some x6) ∧
    (w.frozen? ⟨b, 0, none⟩ = false ∧ w.frozen? ⟨b, 1, none⟩ = false ∧ w.frozen? ⟨b, 2, none⟩ = false ∧ w.frozen? ⟨b, 3, none⟩ = false ∧ w.frozen? ⟨b, 4, none⟩ = false ∧ w.frozen? ⟨b, 5, none⟩ = false ∧ w.frozen? ⟨b, 6, none⟩ = false) :=
  ⟨⟨cell_of_block h rfl, cell_of_block h rfl, cell_of_block h rfl, cell_of_block h rfl, cell_of_block h rfl, cell_of_block h rfl, cell_of_block h rfl⟩, frozen_of_block h, frozen_of_block h, frozen_of_block h, frozen_of_block h, frozen_of_block h, frozen_of_block h, frozen_of_block h⟩
theorem set_block {w : World} {b j : Nat} {C : Array Value} {t : TypeId} {fr : Nat × Nat} {u : Value} (h : w.heap[b]? = some (.cells C t fr)) : (w.setCell ⟨b, j, none⟩ u).heap[b]? = some (.cells (C.setIfInBounds j u) t fr) := by
  simp only [World.setCell]
  rw [Array.getElem?_modify]
  simp [h]
/-- all blocks but b are as they were -/
structure Only (b : Nat) (w w' : World) : Prop where
  os : w'.os = w.os
  tape : w'.tape = w.tape
  output : w'.output = w.output
  size : w.heap.size = w'.heap.size
  block : ∀ k, k ≠ b → w'.heap[k]? = w.heap[k]?
theorem Only.set {b : Nat} {w w' : World} (h : Only b w w') (j : Nat) (u : Value) : Only b w (w'.setCell ⟨b, j, none⟩ u) :=
  ⟨h.os, h.tape, h.output, by simp [World.setCell, h.size], fun k hk => by rw [Below.heap_setCell _ _ _ _ hk, h.block k hk]⟩
theorem Only.refl (b : Nat) (w : World) : Only b w w := ⟨rfl, rfl, rfl, rfl, fun _ _ => rfl⟩
theorem store7 {w : World} {b : Nat} {x0 x1 x2 x3 x4 x5 x6 : Value} {t : TypeId} (h : w.heap[b]? = some (.cells #[x0, x1, x2, x3, x4, x5, x6] t (0, 0))) (a0 a1 a2 a3 a4 a5 a6 : Value) :
    (((((((w.setCell ⟨b, 0, none⟩ a0).setCell ⟨b, 1, none⟩ a1).setCell ⟨b, 2, none⟩ a2).setCell ⟨b, 3, none⟩ a3).setCell ⟨b, 4, none⟩ a4).setCell ⟨b, 5, none⟩ a5).setCell ⟨b, 6, none⟩ a6).heap[b]? = some (.cells #[a0, a1, a2, a3, a4, a5, a6] t (0, 0)) ∧
    Only b w (((((((w.setCell ⟨b, 0, none⟩ a0).setCell ⟨b, 1, none⟩ a1).setCell ⟨b, 2, none⟩ a2).setCell ⟨b, 3, none⟩ a3).setCell ⟨b, 4, none⟩ a4).setCell ⟨b, 5, none⟩ a5).setCell ⟨b, 6, none⟩ a6) :=
  ⟨by have e := set_block (j := 6) (u := a6) (set_block (j := 5) (u := a5) (set_block (j := 4) (u := a4) (set_block (j := 3) (u := a3) (set_block (j := 2) (u := a2) (set_block (j := 1) (u := a1) (set_block (j := 0) (u := a0) h))))))
      simp only [List.setIfInBounds_toArray, List.set_cons_zero, List.set_cons_succ] at e
      exact e, ((((((Only.refl b w).set _ _).set _ _).set _ _).set _ _).set _ _).set _ _ |>.set _ _⟩
/-- a new block that was written over: the old ones stay -/
theorem RF.only {R b : Nat} {w w1 w' : World} (h : RF R w w1) (ho : Only b w1 w') (hb : w.heap.size ≤ b) : RF R w w' :=
  ⟨ho.os.trans h.os, ho.tape.trans h.tape, ho.output.trans h.output, by rw [← ho.size]; exact h.size, fun k h1 h2 => by rw [ho.block k (by omega), h.block k h1 h2]⟩
theorem Rd.only {w0 w w' : World} {R m b : Nat} {bs : List Nat} {room : Int} (h : Rd w0 w R m bs room) (ho : Only b w w') (hb : R < b) : Rd w0 w' R m bs room := by
  obtain ⟨a, cp, h1, h2⟩ := h.box
  refine ⟨⟨a, cp, by rw [ho.block R (by omega), h1], h2⟩, h.b8, h.len, ⟨ho.os.trans h.old.os, ho.tape.trans h.old.tape, ho.output.trans h.old.output, by rw [← ho.size]; exact h.old.size, fun k hk => ?_⟩, h.le⟩
  rw [ho.block k (by have := h.le; omega), h.old.block k hk]
theorem cells_of_block {w : World} {b : Nat} {C : Array Value} {t : TypeId} {fr : Nat × Nat} (h : w.heap[b]? = some (.cells C t fr)) : ∀ j u, C.toList[j]? = some u → w.cell? ⟨b, 0 + j, none⟩ = some u := by
  intro j u hj
  rw [Nat.zero_add]
  exact cell_of_block h (by simpa using hj)

/-- the end of a taker whose answer lives in the box that it laid first -/
theorem finish {fn : Func} {tm : Tmp} (hfn : fn.results = #[.cell tm 26]) {Q : Ending → World → Prop} {tmps : Array Value} {w0 w W : World} {R m : Nat} {room : Int} {res : RV} {rest : List Nat} {p : Pay} {c : Fo} {x0 x1 x2 x3 x4 x5 x6 iv lv : Value}
    (QOK : ∀ p c rest w' v, res = .ok ((p, c), rest) → RF R w w' → Rd w0 w' R m rest room → VX (fun b => w.heap.size ≤ b) w' p c v → Q (.returned v) w')
    (hp : tmps.getD tm undef = .pointer (some ⟨w.heap.size, 0, none⟩)) (hb : W.heap[w.heap.size]? = some (.cells #[x0, x1, x2, x3, x4, x5, x6] 26 (0, 0))) (hR : R < w.heap.size)
    (he : res = .ok ((p, c), rest)) (hf : RF R w W) (hrd : Rd w0 W R m rest room) (hx : VX (fun b => w.heap.size < b) W p c (.agg #[.int .i64 p.kind, .int .i64 p.key, .int .i64 p.elem, .int .i64 p.num, .string p.text, iv, lv])) :
    bodyPost Try.prog fn Q .ret { tmps := tmps, defers := [] } (((((((W.setCell ⟨w.heap.size, 0, none⟩ (.int .i64 p.kind)).setCell ⟨w.heap.size, 1, none⟩ (.int .i64 p.key)).setCell ⟨w.heap.size, 2, none⟩ (.int .i64 p.elem)).setCell ⟨w.heap.size, 3, none⟩ (.int .i64 p.num)).setCell ⟨w.heap.size, 4, none⟩ (.string p.text)).setCell ⟨w.heap.size, 5, none⟩ iv).setCell ⟨w.heap.size, 6, none⟩ lv) := by
  obtain ⟨s1, s2⟩ := store7 hb (.int .i64 p.kind) (.int .i64 p.key) (.int .i64 p.elem) (.int .i64 p.num) (.string p.text) iv lv
  refine bodyPost_ret (results_val hfn _ _ _ _ hp _ rfl (cells_of_block s1)) rfl ?_
  refine QOK p c rest _ _ he (hf.only s2 (Nat.le_refl _)) (hrd.only s2 hR) ?_
  exact (hx.kept fun k h1 h2 => s2.block k (by omega)).mono fun b h => Nat.le_of_lt h

theorem truthOf_1 (w : World) : Calls Try.prog 91 #[.int .u8 1] w fun e w' => e = .returned (.agg #[.int .i64 1, .int .i64 0, .int .i64 0, .int .i64 1, .string { data := #[] }, .slice none 0 0, .slice none 0 0]) ∧ Below w.heap.size w w' := by
  go_enter Try.func91, Try.ntmps91
  go_wp2
  refine bodyPost_ret (results_val rfl _ _ _ _ rfl _ rfl (alloc_cells _ _ _ _)) rfl ?_
  exact ⟨rfl, alloc_below _ _⟩
theorem truthOf_2 (w : World) : Calls Try.prog 91 #[.int .u8 2] w fun e w' => e = .returned (.agg #[.int .i64 1, .int .i64 0, .int .i64 0, .int .i64 0, .string { data := #[] }, .slice none 0 0, .slice none 0 0]) ∧ Below w.heap.size w w' := by
  go_enter Try.func91, Try.ntmps91
  go_wp2
  refine bodyPost_ret (results_val rfl _ _ _ _ rfl _ rfl (alloc_cells _ _ _ _)) rfl ?_
  exact ⟨rfl, alloc_below _ _⟩
theorem truthOf_no (c : Nat) (w : World) (h1 : ¬ c = 1) (h2 : ¬ c = 2) : Calls Try.prog 91 #[.int .u8 c] w fun e w' => e = gives false ∧ Below w.heap.size w w' := by
  have h1' : ¬ (c : Int) = 1 := by omega
  have h2' : ¬ (c : Int) = 2 := by omega
  go_enter Try.func91, Try.ntmps91
  go_wp2
  exact ⟨rfl, rfl, alloc_below _ _⟩

def rTruth : List Nat → RV
  | [] => .error true
  | c :: r => if c = 1 then .ok ((scal 1 1, .nil), r) else if c = 2 then .ok ((scal 1 0, .nil), r) else .error false

set_option maxRecDepth 10000 in
set_option maxHeartbeats 1000000 in
theorem truth_any (w0 w : World) (R m : Nat) (bs : List Nat) (room : Int) (h : Rd w0 w R m bs room) : TakesV 77 #[.pointer (some ⟨R, 0, none⟩)] w0 w R m room (rTruth bs) := by
  intro Q QOK QNO
  have hab := alloc_below w (.cells #[.int .i64 0, .int .i64 0, .int .i64 0, .int .i64 0, .string { data := #[] }, .slice none 0 0, .slice none 0 0] 26)
  have hR := h.lt
  cases bs with
  | nil =>
    have K := take_nil w0 _ R m room (h.later hab)
    go_enter Try.func77, Try.ntmps77
    go_wp2_with fail
    refine K.mono ?_
    rintro e wx ⟨rfl, hwx⟩
    obtain rfl := hwx.symm
    unfold gives
    go_wp2_with fail
    exact ⟨rfl, QNO true _ rfl (RF.of_below hab)⟩
  | cons c bs =>
    have K := take_cons w0 _ R m c bs room (h.later hab)
    have k1 : i64ok 1 := ⟨by omega, by omega⟩
    have k0 : i64ok 0 := ⟨by omega, by omega⟩
    by_cases c1 : c = 1
    · subst c1
      have HE : Hid (rTruth (1 :: bs) = .ok ((scal 1 1, .nil), bs)) := rfl
      go_enter Try.func77, Try.ntmps77
      go_wp2_with fail
      refine K.mono ?_
      rintro e wx ⟨rfl, hrd, hf⟩
      have hb2 := hf.box (heap_new w _) (Nat.ne_of_gt hR)
      go_wp2_with fail
      refine (truthOf_1 wx).mono ?_
      rintro e wy ⟨rfl, hwy⟩
      have hb3 := (RF.of_below (R := R) hwy).box hb2 (Nat.ne_of_gt hR)
      obtain ⟨⟨z0, z1, z2, z3, z4, z5, z6⟩, f0, f1, f2, f3, f4, f5, f6⟩ := blk7 hb3
      go_wp2_with fail
      exact finish (p := scal 1 1) (c := .nil) rfl QOK rfl hb3 hR HE.out ((RF.of_below hab).trans (hf.trans (RF.of_below hwy))) (hrd.later hwy) (vx_leaf (scal_ok k1 k1) rfl)
    by_cases c2 : c = 2
    · subst c2
      have HE : Hid (rTruth (2 :: bs) = .ok ((scal 1 0, .nil), bs)) := rfl
      go_enter Try.func77, Try.ntmps77
      go_wp2_with fail
      refine K.mono ?_
      rintro e wx ⟨rfl, hrd, hf⟩
      have hb2 := hf.box (heap_new w _) (Nat.ne_of_gt hR)
      go_wp2_with fail
      refine (truthOf_2 wx).mono ?_
      rintro e wy ⟨rfl, hwy⟩
      have hb3 := (RF.of_below (R := R) hwy).box hb2 (Nat.ne_of_gt hR)
      obtain ⟨⟨z0, z1, z2, z3, z4, z5, z6⟩, f0, f1, f2, f3, f4, f5, f6⟩ := blk7 hb3
      go_wp2_with fail
      exact finish (p := scal 1 0) (c := .nil) rfl QOK rfl hb3 hR HE.out ((RF.of_below hab).trans (hf.trans (RF.of_below hwy))) (hrd.later hwy) (vx_leaf (scal_ok k1 k0) rfl)
    · have HE : Hid (rTruth (c :: bs) = .error false) := by show _ = _; simp [rTruth, c1, c2]
      go_enter Try.func77, Try.ntmps77
      go_wp2_with fail
      refine K.mono ?_
      rintro e wx ⟨rfl, hrd, hf⟩
      go_wp2_with fail
      refine (truthOf_no c wx c1 c2).mono ?_
      rintro e wy ⟨rfl, hwy⟩
      unfold gives
      go_wp2_with fail
      exact ⟨rfl, QNO false _ HE.out ((RF.of_below hab).trans (hf.trans (RF.of_below hwy)))⟩

theorem i8_wrap (c : Nat) (h : c < 256) : IntKind.i8.wrap (c : Int) = if c < 128 then (c : Int) else (c : Int) - 256 := by
  have : ∀ m : Fin 256, IntKind.i8.wrap ((m.val : Nat) : Int) = if m.val < 128 then ((m.val : Nat) : Int) else ((m.val : Nat) : Int) - 256 := by decide +kernel
  exact this ⟨c, h⟩
def rSmall : List Nat → RV
  | [] => .error true
  | c :: r => .ok ((scal 3 (if c < 128 then (c : Int) else (c : Int) - 256), .nil), r)
set_option maxRecDepth 10000 in
set_option maxHeartbeats 1000000 in
theorem small_any (w0 w : World) (R m : Nat) (bs : List Nat) (room : Int) (h : Rd w0 w R m bs room) : TakesV 78 #[.pointer (some ⟨R, 0, none⟩)] w0 w R m room (rSmall bs) := by
  intro Q QOK QNO
  have hab := alloc_below w (.cells #[.int .i64 0, .int .i64 0, .int .i64 0, .int .i64 0, .string { data := #[] }, .slice none 0 0, .slice none 0 0] 26)
  have hR := h.lt
  cases bs with
  | nil =>
    have K := take_nil w0 _ R m room (h.later hab)
    go_enter Try.func78, Try.ntmps78
    go_wp2_with fail
    refine K.mono ?_
    rintro e wx ⟨rfl, hwx⟩
    obtain rfl := hwx.symm
    unfold gives
    go_wp2_with fail
    exact ⟨rfl, QNO true _ rfl (RF.of_below hab)⟩
  | cons c bs =>
    have K := take_cons w0 _ R m c bs room (h.later hab)
    have hc := h.b8 c (by simp)
    have hc' : (c : Int) < 256 := by omega
    obtain ⟨n, hn, hn1, hn2⟩ : ∃ n : Int, (if c < 128 then (c : Int) else (c : Int) - 256) = n ∧ -128 ≤ n ∧ n ≤ 127 := ⟨_, rfl, by split <;> omega, by split <;> omega⟩
    have e1 : IntKind.i8.wrap (c : Int) = n := by rw [← hn]; exact i8_wrap c hc
    have HE : Hid (rSmall (c :: bs) = .ok ((scal 3 n, .nil), bs)) := by show _ = _; simp only [rSmall, hn]
    clear hn
    go_enter Try.func78, Try.ntmps78
    go_wp2_with fail
    refine K.mono ?_
    rintro e wx ⟨rfl, hrd, hf⟩
    have hb2 := hf.box (heap_new w _) (Nat.ne_of_gt hR)
    obtain ⟨⟨z0, z1, z2, z3, z4, z5, z6⟩, f0, f1, f2, f3, f4, f5, f6⟩ := blk7 hb2
    go_wp2_with fail
    exact finish (p := scal 3 n) (c := .nil) rfl QOK rfl hb2 hR HE.out ((RF.of_below hab).trans hf) hrd (vx_leaf (scal_ok ⟨by omega, by omega⟩ ⟨by omega, by omega⟩) rfl)
end Go.Proofs.Ytikoddlidhefpaa
