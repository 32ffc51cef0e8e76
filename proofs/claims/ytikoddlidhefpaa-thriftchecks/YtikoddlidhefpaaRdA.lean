/-
  The reader: a box of what is left, of the room and of the ways; what it leaves alone; the first takes.
-/
import Derived.Test.YtikoddlidhefpaaWrB
namespace Go.Proofs.Ytikoddlidhefpaa
set_option linter.unusedVariables false
open Go.ChangeShapes Go.WideShapes Go.ChangeAt Go.RowKit Go.Deep

/-- all blocks but R are as they were -/
structure RF (R : Nat) (w w' : World) : Prop where
  os : w'.os = w.os
  tape : w'.tape = w.tape
  output : w'.output = w.output
  size : w.heap.size ≤ w'.heap.size
  block : ∀ k, k < w.heap.size → k ≠ R → w'.heap[k]? = w.heap[k]?
theorem RF.refl (R : Nat) (w : World) : RF R w w := ⟨rfl, rfl, rfl, Nat.le_refl _, fun _ _ _ => rfl⟩
theorem RF.trans {R : Nat} {a b c : World} (h : RF R a b) (k : RF R b c) : RF R a c :=
  ⟨k.os.trans h.os, k.tape.trans h.tape, k.output.trans h.output, Nat.le_trans h.size k.size, fun i h1 h2 => by rw [k.block i (Nat.lt_of_lt_of_le h1 h.size) h2, h.block i h1 h2]⟩
theorem RF.of_below {R : Nat} {w w' : World} (h : Below w.heap.size w w') : RF R w w' := ⟨h.os, h.tape, h.output, h.size, fun k h1 _ => h.block k h1⟩
theorem RF.below {R : Nat} {w w' : World} (h : RF R w w') (hR : R ≤ w.heap.size) : Below R w w' := ⟨h.os, h.tape, h.output, h.size, fun k hk => h.block k (by omega) (by omega)⟩
theorem RF.old {R : Nat} {w0 w w' : World} (hb : Below w0.heap.size w0 w) (h : RF R w w') (h0 : w0.heap.size ≤ R) (hR : R ≤ w.heap.size) : Below w0.heap.size w0 w' := hb.trans ((h.below hR).mono h0)
theorem RF.box {R b : Nat} {w w' : World} {o : Obj} (h : RF R w w') (hb : w.heap[b]? = some o) (hne : b ≠ R) : w'.heap[b]? = some o := by
  have hlt : b < w.heap.size := by
    rcases Nat.lt_or_ge b w.heap.size with h1 | h1
    · exact h1
    · rw [Array.getElem?_eq_none h1] at hb; cases hb
  rw [h.block b hlt hne, hb]
theorem RF.cell {R : Nat} {w w' : World} (h : RF R w w') {a : Addr} {v : Value} (hc : w.cell? a = some v) (hne : a.block ≠ R) : w'.cell? a = some v := by
  rw [World.cell?_of_block (h.block a.block (block_lt_of_cell hc) hne), hc]
theorem RF.setCell {R : Nat} (w : World) (j : Nat) (v : Value) : RF R w (w.setCell ⟨R, j, none⟩ v) :=
  ⟨rfl, rfl, rfl, by simp [World.setCell], fun k _ hk => Below.heap_setCell _ _ _ _ hk⟩

/-- the reader's box at block R: the bytes 'bs' are left, which lie in memory that was there in w0; the room; the map of the ways -/
structure Rd (w0 w : World) (R : Nat) (m : Nat) (bs : List Nat) (room : Int) : Prop where
  box : ∃ a cp, w.heap[R]? = some (.cells #[.slice a bs.length cp, .int .i64 room, .map (some m)] 72 (0, 0)) ∧ Src w0 a bs.length cp (c8 bs) ∧ bs.length ≤ cp
  b8 : ∀ c ∈ bs, c < 256
  len : bs.length ≤ 140737488355328
  old : Below w0.heap.size w0 w
  le : w0.heap.size ≤ R

theorem Rd.lt {w0 w : World} {R m : Nat} {bs : List Nat} {room : Int} (h : Rd w0 w R m bs room) : R < w.heap.size := by
  obtain ⟨a, cp, h1, _⟩ := h.box
  rcases Nat.lt_or_ge R w.heap.size with h2 | h2
  · exact h2
  · rw [Array.getElem?_eq_none h2] at h1; cases h1
theorem Rd.later {w0 w w' : World} {R m : Nat} {bs : List Nat} {room : Int} (h : Rd w0 w R m bs room) (hb : Below w.heap.size w w') : Rd w0 w' R m bs room := by
  obtain ⟨a, cp, h1, h2⟩ := h.box
  exact ⟨⟨a, cp, by rw [hb.block R h.lt, h1], h2⟩, h.b8, h.len, h.old.trans (hb.mono h.old.size), h.le⟩

/-- how the reader gives up: too short, or no writer's -/
def gives (short : Bool) : Ending := .panicked [{ v := .iface (if short then 63 else 64) (.agg #[]), recovered := false }]

def rTake : List Nat → Except Bool (Nat × List Nat)
  | [] => .error true
  | b :: r => .ok (b, r)

theorem peek_nil (w0 w : World) (R m : Nat) (room : Int) (h : Rd w0 w R m [] room) :
    Calls Try.prog 101 #[.pointer (some ⟨R, 0, none⟩)] w fun e w' => e = gives true ∧ w' = w := by
  obtain ⟨a, cp, h1, h2, _⟩ := h.box
  have c0 : w.cell? ⟨R, 0, none⟩ = some (.slice a 0 cp) := cell_of_block h1 rfl
  go_enter Try.func101, Try.ntmps101
  go_wp2
  exact ⟨rfl, rfl, rfl⟩
theorem peek_cons (w0 w : World) (R m : Nat) (b : Nat) (bs : List Nat) (room : Int) (h : Rd w0 w R m (b :: bs) room) :
    Calls Try.prog 101 #[.pointer (some ⟨R, 0, none⟩)] w fun e w' => e = .returned (.int .u8 b) ∧ w' = w := by
  obtain ⟨a, cp, h1, h2, _⟩ := h.box
  have h3 := src_at h2 (j := 0) (by simp)
  obtain ⟨g, off, rfl, hc⟩ := h3
  have c0 : w.cell? ⟨R, 0, none⟩ = some (.slice (some ⟨g, off, none⟩) (bs.length + 1) cp) := cell_of_block h1 rfl
  have c1 := cell_later h.old hc
  simp at c1
  have hl : ((bs.length + 1 : Nat) : Int) ≤ 140737488355328 := by have := h.len; simp at this; omega
  obtain ⟨L, hL⟩ : ∃ L, L = bs.length + 1 := ⟨_, rfl⟩
  rw [← hL] at c0 hl
  have hL0 : (0 : Int) < (L : Int) := by omega
  have hL1 : ¬ (L : Int) = 0 := by omega
  clear hL
  go_enter Try.func101, Try.ntmps101
  go_wp2
  go_ret
  exact ⟨rfl, rfl⟩

/-- what is left behind the first n -/
theorem src_drop {w : World} {g off len cap n : Nat} {l : List Nat} (h : Src w (some ⟨g, off, none⟩) len cap (c8 l)) (hn : n ≤ len) : Src w (some ⟨g, off + n, none⟩) (len - n) (cap - n) (c8 (l.drop n)) := by
  have hl : l.length = len := by have := h.1; rwa [c8_len] at this
  refine ⟨by rw [c8_len, List.length_drop]; omega, .inr ⟨_, rfl, fun j u hj => ?_⟩⟩
  rcases h.2 with ⟨h1, _⟩ | ⟨p, h1, h2⟩
  · cases h1
  · cases h1
    have := h2 (n + j) u (by
      have e : c8 (l.drop n) = (c8 l).drop n := by simp [c8, List.map_drop]
      rw [e, List.getElem?_drop] at hj
      exact hj)
    rw [← this]
    congr 1
    unfold Addr.add
    split <;> simp_all
    omega
theorem src_zero (w : World) (p : Addr) (c : Nat) : Src w (some p) 0 c (c8 []) := ⟨rfl, .inr ⟨_, rfl, fun j u hj => by simp [c8] at hj⟩⟩

/-- the reader's box behind a store of what is left -/
theorem rd_store {w0 w : World} {R m : Nat} {bs rest : List Nat} {room : Int} (h : Rd w0 w R m bs room) {a : Option Addr} {n cp : Nat} (hn : rest.length = n) (hs : Src w0 a n cp (c8 rest)) (hc : n ≤ cp) (hsub : ∀ c ∈ rest, c ∈ bs) (hle : rest.length ≤ bs.length) :
    Rd w0 (w.setCell ⟨R, 0, none⟩ (.slice a n cp)) R m rest room := by
  obtain ⟨a0, c0, h1, _⟩ := h.box
  subst hn
  refine ⟨⟨a, cp, ?_, hs, hc⟩, fun c hx => h.b8 c (hsub c hx), Nat.le_trans hle h.len, h.old.trans ((RF.setCell w 0 _).below (Nat.le_of_lt h.lt) |>.mono h.le), h.le⟩
  have hlt := h.lt
  simp only [World.setCell]
  rw [Array.getElem?_modify]
  simp [h1]

set_option maxRecDepth 10000 in
set_option maxHeartbeats 1000000 in
theorem take_nil (w0 w : World) (R m : Nat) (room : Int) (h : Rd w0 w R m [] room) :
    Calls Try.prog 92 #[.pointer (some ⟨R, 0, none⟩)] w fun e w' => e = gives true ∧ w' = w := by
  have K := peek_nil w0 w R m room h
  go_enter Try.func92, Try.ntmps92
  go_wp2_with fail
  refine K.mono ?_
  rintro e wx ⟨rfl, hwx⟩
  obtain rfl := hwx.symm
  unfold gives
  go_wp2_with fail
  exact ⟨rfl, rfl, rfl⟩

set_option maxRecDepth 100000 in
set_option maxHeartbeats 1000000 in
theorem take_cons (w0 w : World) (R m : Nat) (b : Nat) (bs : List Nat) (room : Int) (h : Rd w0 w R m (b :: bs) room) :
    Calls Try.prog 92 #[.pointer (some ⟨R, 0, none⟩)] w fun e w' => e = .returned (.int .u8 b) ∧ Rd w0 w' R m bs room ∧ RF R w w' := by
  have K := peek_cons w0 w R m b bs room h
  obtain ⟨a, cp, h1, h2, h4⟩ := h.box
  have h3 := src_at h2 (j := 0) (by simp)
  obtain ⟨g, off, rfl, hc⟩ := h3
  have c0 : w.cell? ⟨R, 0, none⟩ = some (.slice (some ⟨g, off, none⟩) (bs.length + 1) cp) := cell_of_block h1 rfl
  have f0 : w.frozen? ⟨R, 0, none⟩ = false := frozen_of_block h1
  have hl : ((bs.length + 1 : Nat) : Int) ≤ 140737488355328 := by have := h.len; simp at this; omega
  simp only [List.length_cons] at h2 h4
  have hd := src_drop h2 (n := 1) (by omega)
  simp only [List.drop_one, List.tail_cons, Nat.add_sub_cancel] at hd
  have HD : Hid (Rd w0 (w.setCell ⟨R, 0, none⟩ (.slice (some ⟨g, off + 1, none⟩) bs.length (cp - 1))) R m bs room) := rd_store h rfl hd (by omega) (fun c hc => List.mem_cons_of_mem _ hc) (by simp)
  have HZ : Hid (bs.length = 0 → Rd w0 (w.setCell ⟨R, 0, none⟩ (.slice (some ⟨g, off, none⟩) 0 (cp - 1))) R m bs room) := fun hz => by
    have e : bs = [] := List.length_eq_zero_iff.1 hz
    subst e
    exact rd_store h rfl (src_zero _ _ _) (Nat.zero_le _) (fun c hc => by cases hc) (by simp)
  obtain ⟨M, hM⟩ : ∃ M, M = bs.length + 1 := ⟨_, rfl⟩
  have hM' : bs.length = M - 1 := by omega
  rw [← hM] at c0 hl h4
  have HD' : Hid (Rd w0 (w.setCell ⟨R, 0, none⟩ (.slice (some ⟨g, off + 1, none⟩) (M - 1) (cp - 1))) R m bs room) := by rw [← hM']; exact HD.out
  have HZ' : Hid (M = 1 → Rd w0 (w.setCell ⟨R, 0, none⟩ (.slice (some ⟨g, off, none⟩) (M - 1) (cp - 1))) R m bs room) := fun hz => by subst hz; exact HZ.out (by omega)
  have hM1 : 1 ≤ M := by omega
  have hM2 : M ≤ cp := h4
  have hM3 : M ≤ 140737488355328 := by omega
  clear hM hM' h2 hd h1 h4 hc hl HD HZ h
  go_enter Try.func92, Try.ntmps92
  go_wp2_with fail
  refine K.mono ?_
  rintro e wx ⟨rfl, hwx⟩
  obtain rfl := hwx.symm
  clear K
  go_wp2_with fail
  all_goals (
    go_ret
    first | exact ⟨rfl, HD'.out, RF.setCell _ _ _⟩ | exact ⟨rfl, by have h0 := HZ'.out (by omega); rwa [show cp - 1 = 0 by omega] at h0, RF.setCell _ _ _⟩)

/-- a contract of a taker: what is told of the bytes, or how it is given up; all but the reader's box stays -/
def Takes {α : Type} (f : FuncId) (args : Array Value) (w0 w : World) (R m : Nat) (room : Int) (res : Except Bool (α × List Nat)) (val : α → Value) : Prop :=
  Calls Try.prog f args w fun e w' => RF R w w' ∧ match res with
    | .ok (a, rest) => e = .returned (val a) ∧ Rd w0 w' R m rest room
    | .error s => e = gives s

theorem take_any (w0 w : World) (R m : Nat) (bs : List Nat) (room : Int) (h : Rd w0 w R m bs room) : Takes 92 #[.pointer (some ⟨R, 0, none⟩)] w0 w R m room (rTake bs) (fun b : Nat => .int .u8 b) := by
  cases bs with
  | nil => exact (take_nil w0 w R m room h).mono fun e w' ⟨h1, h2⟩ => ⟨by rw [h2]; exact RF.refl _ _, h1⟩
  | cons b bs => exact (take_cons w0 w R m b bs room h).mono fun e w' ⟨h1, h2, h3⟩ => ⟨h3, h1, h2⟩

def rHalves : List Nat → Except Bool ((Nat × Nat) × List Nat)
  | [] => .error true
  | b :: r => .ok ((b / 16, b % 16), r)
set_option maxRecDepth 10000 in
set_option maxHeartbeats 1000000 in
theorem takeHalves_any (w0 w : World) (R m : Nat) (bs : List Nat) (room : Int) (h : Rd w0 w R m bs room) : Takes 97 #[.pointer (some ⟨R, 0, none⟩)] w0 w R m room (rHalves bs) (fun p : Nat × Nat => .tuple #[.int .i64 (p.1 : Nat), .int .i64 (p.2 : Nat)]) := by
  cases bs with
  | nil =>
    have K := take_nil w0 w R m room h
    show Calls Try.prog 97 _ w fun e w' => RF R w w' ∧ e = gives true
    go_enter Try.func97, Try.ntmps97
    go_wp2_with fail
    refine K.mono ?_
    rintro e wx ⟨rfl, hwx⟩
    obtain rfl := hwx.symm
    unfold gives
    go_wp2_with fail
    exact ⟨rfl, RF.refl _ _, rfl⟩
  | cons b bs =>
    have K := take_cons w0 w R m b bs room h
    have hb' : b < 256 := h.b8 b (by simp)
    have hb1 : (b : Int) < 256 := by omega
    show Calls Try.prog 97 _ w fun e w' => RF R w w' ∧ (e = .returned (.tuple #[.int .i64 ((b / 16 : Nat) : Int), .int .i64 ((b % 16 : Nat) : Int)]) ∧ Rd w0 w' R m bs room)
    obtain ⟨q, hq⟩ : ∃ q : Nat, q = b / 16 := ⟨_, rfl⟩
    obtain ⟨r, hr⟩ : ∃ r : Nat, r = b % 16 := ⟨_, rfl⟩
    have e1 : (b : Int) / 16 = (q : Int) := by omega
    have e2 : (b : Int) % 16 = (r : Int) := by omega
    rw [← hq, ← hr]
    clear hq hr
    go_enter Try.func97, Try.ntmps97
    go_wp2_with fail
    refine K.mono ?_
    rintro e wx ⟨rfl, hrd, hf⟩
    go_wp2_with fail
    go_ret2
    exact ⟨hf, by rw [e2]; rfl, hrd⟩

theorem conv_empty (W : World) (p : Addr) (c : Nat) : Sem.run Try.prog (convert 37 9 (.slice (some p) 0 c)) W = .ok (.string (strOfNums [])) W := by
  have hl : (loadCells p 0).run Try.prog W = .ok #[] W := by
    simp [loadCells, go_sem]
  rw [run_convert_bytes_string W 37 9 5 _ 0 c Try.underlying37 Try.underlying5 Try.underlying9, run_bytesToString W _ 0 c [] (by simpa using hl)]
  simp [strOfNums]
  rfl
theorem str_src {w : World} {a : Option Addr} {len c : Nat} {l : List Nat} (h : Src w a len c (c8 l)) : Sem.run Try.prog (convert 37 9 (.slice a len c)) w = .ok (.string (strOfNums (l.map fun n : Nat => (n : Int)))) w := by
  have hll : l.length = len := by have := h.1; rwa [c8_len] at this
  rcases h.2 with ⟨rfl, rfl, rfl⟩ | ⟨p, rfl, _⟩
  · have e : l = [] := by simpa using hll
    subst e
    exact run_convert_bytes_nil w 37 5 Try.underlying37 Try.underlying5 0 0 9 Try.underlying9
  · rcases Nat.eq_zero_or_pos len with rfl | hl
    · have e : l = [] := by simpa using hll
      subst e
      exact conv_empty w p c
    · obtain ⟨g, off, e, _⟩ := src_at h hl
      cases e
      refine run_convert_bytes_arg w 37 5 Try.underlying37 Try.underlying5 g off len c _ (by simpa using hll) (fun i hi => ?_) 9 Try.underlying9
      obtain ⟨g', off', e', hc⟩ := src_at h hi
      cases e'
      rw [hc]
      have hx : i < l.length := by omega
      simp [List.getD, List.getElem?_eq_getElem hx]

/-- the bytes of a text -/
def txt (l : List Nat) : ByteArray := strOfNums (l.map fun n : Nat => (n : Int))
def rText (n : Nat) (bs : List Nat) : Except Bool (ByteArray × List Nat) := if bs.length < n then .error true else .ok (txt (bs.take n), bs.drop n)
theorem src_take {w : World} {a : Option Addr} {len cap n : Nat} {l : List Nat} (h : Src w a len cap (c8 l)) (hn : n ≤ len) : Src w a n cap (c8 (l.take n)) := by
  have hl : l.length = len := by have := h.1; rwa [c8_len] at this
  refine ⟨by rw [c8_len, List.length_take]; omega, ?_⟩
  rcases h.2 with ⟨h1, h2, h3⟩ | ⟨p, h1, h2⟩
  · exact .inl ⟨h1, by omega, h3⟩
  · refine .inr ⟨p, h1, fun j u hj => h2 j u ?_⟩
    have e : c8 (l.take n) = (c8 l).take n := by simp [c8, List.map_take]
    rw [e, List.getElem?_take] at hj
    split at hj
    · exact hj
    · cases hj

set_option maxRecDepth 100000 in
set_option maxHeartbeats 2000000 in
theorem takeText_short (w0 w : World) (R m : Nat) (bs : List Nat) (room : Int) (n : Nat) (hn : n ≤ 1048576) (hs : bs.length < n) (h : Rd w0 w R m bs room) :
    Calls Try.prog 95 #[.pointer (some ⟨R, 0, none⟩), .int .i64 n] w fun e w' => RF R w w' ∧ e = gives true := by
  obtain ⟨a, cp, h1, h2, h4⟩ := h.box
  have c0 : w.cell? ⟨R, 0, none⟩ = some (.slice a bs.length cp) := cell_of_block h1 rfl
  have hs' : (bs.length : Int) < (n : Int) := by omega
  go_enter Try.func95, Try.ntmps95
  go_wp2
  exact ⟨rfl, RF.refl _ _, rfl⟩
set_option maxRecDepth 100000 in
set_option maxHeartbeats 2000000 in
theorem takeText_zero (w0 w : World) (R m : Nat) (room : Int) (bs : List Nat) (h : Rd w0 w R m bs room) :
    Calls Try.prog 95 #[.pointer (some ⟨R, 0, none⟩), .int .i64 0] w fun e w' => RF R w w' ∧ (e = .returned (.string (txt [])) ∧ Rd w0 w' R m bs room) := by
  obtain ⟨a, cp, h1, h2, h4⟩ := h.box
  have c0 : w.cell? ⟨R, 0, none⟩ = some (.slice a bs.length cp) := cell_of_block h1 rfl
  have f0 : w.frozen? ⟨R, 0, none⟩ = false := frozen_of_block h1
  have S1 : Sem.run Try.prog (convert 37 9 (.slice a 0 cp)) w = .ok (.string (txt (bs.take 0))) w := str_src (w := w) ((src_take h2 (Nat.zero_le _)).later h.old)
  simp only [List.take_zero] at S1
  have HD : Hid (Rd w0 (w.setCell ⟨R, 0, none⟩ (.slice a bs.length cp)) R m bs room) := rd_store h rfl h2 h4 (fun c hc => hc) (Nat.le_refl _)
  have hcp : bs.length ≤ cp := h4
  generalize txt [] = T at *
  generalize bs.length = L at *
  clear h1 h2 h4
  go_enter Try.func95, Try.ntmps95
  go_wp2
  go_ret
  exact ⟨RF.setCell _ _ _, rfl, HD.out⟩

set_option maxRecDepth 100000 in
set_option maxHeartbeats 2000000 in
theorem takeText_some (w0 w : World) (R m : Nat) (room : Int) (bs : List Nat) (n : Nat) (hn : n ≤ 1048576) (hn0 : 1 ≤ n) (hs : n ≤ bs.length) (h : Rd w0 w R m bs room) :
    Calls Try.prog 95 #[.pointer (some ⟨R, 0, none⟩), .int .i64 n] w fun e w' => RF R w w' ∧ (e = .returned (.string (txt (bs.take n))) ∧ Rd w0 w' R m (bs.drop n) room) := by
  obtain ⟨a, cp, h1, h2, h4⟩ := h.box
  obtain ⟨g, off, rfl, _⟩ := src_at h2 (j := 0) (by omega)
  have c0 : w.cell? ⟨R, 0, none⟩ = some (.slice (some ⟨g, off, none⟩) bs.length cp) := cell_of_block h1 rfl
  have f0 : w.frozen? ⟨R, 0, none⟩ = false := frozen_of_block h1
  have S1 : Sem.run Try.prog (convert 37 9 (.slice (some ⟨g, off, none⟩) n cp)) w = .ok (.string (txt (bs.take n))) w := str_src (w := w) ((src_take h2 hs).later h.old)
  have HLD : Hid ((bs.drop n).length = bs.length - n) := List.length_drop
  have HSUB : Hid (∀ c ∈ bs.drop n, c ∈ bs) := fun c hc => List.mem_of_mem_drop hc
  have HD : Hid (Rd w0 (w.setCell ⟨R, 0, none⟩ (.slice (some ⟨g, off + n, none⟩) (bs.length - n) (cp - n))) R m (bs.drop n) room) := rd_store h HLD.out (src_drop h2 hs) (by omega) HSUB.out (by rw [HLD.out]; omega)
  have HZ : Hid (cp = n → Rd w0 (w.setCell ⟨R, 0, none⟩ (.slice (some ⟨g, off, none⟩) (bs.length - n) 0)) R m (bs.drop n) room) := fun hq => by
    have e0 : bs.length - n = 0 := by omega
    have e : bs.drop n = [] := List.drop_eq_nil_of_le (by omega)
    rw [e, e0]
    exact rd_store h rfl (src_zero _ _ _) (Nat.zero_le _) (fun c hc => by cases hc) (by simp)
  have hcp : bs.length ≤ cp := h4
  have hl := h.len
  generalize txt (bs.take n) = T at *
  obtain ⟨L, hL⟩ : ∃ L, L = bs.length := ⟨_, rfl⟩
  rw [← hL] at c0 hcp hl hs HD HZ
  clear hL HLD h1 h2 h4 h
  have hs' : (n : Int) ≤ (L : Int) := by omega
  have hcp' : (L : Int) ≤ (cp : Int) := by omega
  go_enter Try.func95, Try.ntmps95
  go_wp2
  all_goals (
    go_ret
    first | exact ⟨RF.setCell _ _ _, rfl, HD.out⟩ | exact ⟨RF.setCell _ _ _, rfl, HZ.out (by omega)⟩)

theorem takeText_any (w0 w : World) (R m : Nat) (bs : List Nat) (room : Int) (n : Nat) (hn : n ≤ 1048576) (h : Rd w0 w R m bs room) : Takes 95 #[.pointer (some ⟨R, 0, none⟩), .int .i64 n] w0 w R m room (rText n bs) (fun s : ByteArray => .string s) := by
  unfold Takes rText
  by_cases hs : bs.length < n
  · rw [if_pos hs]
    exact takeText_short w0 w R m bs room n hn hs h
  · rw [if_neg hs]
    by_cases h0 : n = 0
    · subst h0
      exact takeText_zero w0 w R m room bs h
    · exact takeText_some w0 w R m room bs n hn (by omega) (by omega) h
end Go.Proofs.Ytikoddlidhefpaa
