/-
  The reader's values that hold no others.
-/
import Derived.Test.YtikoddlidhefpaaOwn
namespace Go.Proofs.Ytikoddlidhefpaa
set_option linter.unusedVariables false
open Go.ChangeShapes Go.WideShapes Go.ChangeAt Go.RowKit Go.Deep

abbrev RV := Except Bool ((Pay × Fo) × List Nat)
/-- a contract of a taker of values: its memory is new -/
def TakesV (f : FuncId) (args : Array Value) (w0 w : World) (R m : Nat) (room : Int) (res : RV) : Prop :=
  ∀ Q : Ending → World → Prop, (∀ p c rest w' v, res = .ok ((p, c), rest) → RF R w w' → Rd w0 w' R m rest room → VX (fun b => w.heap.size ≤ b) w' p c v → Q (.returned v) w') → (∀ s w', res = .error s → RF R w w' → Q (gives s) w') → Calls Try.prog f args w Q

def scal (k n : Int) : Pay := ⟨k, 0, 0, n, { data := #[] }, []⟩
theorem scal_ok {k n : Int} (hk : i64ok k) (hn : i64ok n) : PayOk (scal k n) := by
  have z0 : i64ok 0 := ⟨by omega, by omega⟩
  exact ⟨hk, z0, z0, hn, Nat.zero_le _, Nat.zero_le _, fun _ h => by cases h⟩
theorem vx_leaf {S : Nat → Prop} {w : World} {p : Pay} (hp : PayOk p) (hi : p.ids = []) : VX S w p .nil (.agg #[.int .i64 p.kind, .int .i64 p.key, .int .i64 p.elem, .int .i64 p.num, .string p.text, .slice none 0 0, .slice none 0 0]) := by
  refine ⟨_, _, rfl, hp, Nat.zero_le _, ⟨?_, fun g h => by cases h⟩, [], ⟨World.ownsRow_nil _ _ _ _, fun g h => by cases h⟩, rfl⟩
  rw [hi]
  exact World.ownsRow_nil _ _ _ _

/-- a block of seven cells, none of them frozen: what the walk asks of a store into it -/
theorem blk7 {w : World} {b : Nat} {x0 x1 x2 x3 x4 x5 x6 : Value} {t : TypeId} (h : w.heap[b]? = some (.cells #[x0, x1, x2, x3, x4, x5, x6] t (0, 0))) :
    (w.cell? ⟨b, 0, none⟩ = some x0 ∧ w.cell? ⟨b, 1, none⟩ = some x1 ∧ w.cell? ⟨b, 2, none⟩ = some x2 ∧ w.cell? ⟨b, 3, none⟩ = some x3 ∧ w.cell? ⟨b, 4, none⟩ = some x4 ∧ w.cell? ⟨b, 5, none⟩ = some x5 ∧ w.cell? ⟨b, 6, none⟩ = some x6) ∧
    (w.frozen? ⟨b, 0, none⟩ = false ∧ w.frozen? ⟨b, 1, none⟩ = false ∧ w.frozen? ⟨b, 2, none⟩ = false ∧ w.frozen? ⟨b, 3, none⟩ = false ∧ w.frozen? ⟨b, 4, none⟩ = false ∧ w.frozen? ⟨b, 5, none⟩ = false ∧ w.frozen? ⟨b, 6, none⟩ = false) :=
  ⟨⟨cell_of_block h rfl, cell_of_block h rfl, cell_of_block h rfl, cell_of_block h rfl, cell_of_block h rfl, cell_of_block h rfl, cell_of_block h rfl⟩, frozen_of_block h, frozen_of_block h, frozen_of_block h, frozen_of_block h, frozen_of_block h, frozen_of_block h, frozen_of_block h⟩
theorem set_block {w : World} {b j : Nat} {C : Array Value} {t : TypeId} {fr : Nat × Nat} {u : Value} (h : w.heap[b]? = some (.cells C t fr)) : (w.setCell ⟨b, j, none⟩ u).heap[b]? = some (.cells (C.setIfInBounds j u) t fr) := by
  simp only [World.setCell]
  rw [Array.getElem?_modify]
  simp [h]
/-- all blocks but b are as they were -/
structure Only (b : Nat) (w w' : World) : Prop where
  os : w'.os = w.os
  tape : w'.tape = w.tape
  output : w'.output = w.output
  size : w.heap.size = w'.heap.size
  block : ∀ k, k ≠ b → w'.heap[k]? = w.heap[k]?
theorem Only.set {b : Nat} {w w' : World} (h : Only b w w') (j : Nat) (u : Value) : Only b w (w'.setCell ⟨b, j, none⟩ u) :=
  ⟨h.os, h.tape, h.output, by simp [World.setCell, h.size], fun k hk => by rw [Below.heap_setCell _ _ _ _ hk, h.block k hk]⟩
theorem Only.refl (b : Nat) (w : World) : Only b w w := ⟨rfl, rfl, rfl, rfl, fun _ _ => rfl⟩
theorem store7 {w : World} {b : Nat} {x0 x1 x2 x3 x4 x5 x6 : Value} {t : TypeId} (h : w.heap[b]? = some (.cells #[x0, x1, x2, x3, x4, x5, x6] t (0, 0))) (a0 a1 a2 a3 a4 a5 a6 : Value) :
    (((((((w.setCell ⟨b, 0, none⟩ a0).setCell ⟨b, 1, none⟩ a1).setCell ⟨b, 2, none⟩ a2).setCell ⟨b, 3, none⟩ a3).setCell ⟨b, 4, none⟩ a4).setCell ⟨b, 5, none⟩ a5).setCell ⟨b, 6, none⟩ a6).heap[b]? = some (.cells #[a0, a1, a2, a3, a4, a5, a6] t (0, 0)) ∧
    Only b w (((((((w.setCell ⟨b, 0, none⟩ a0).setCell ⟨b, 1, none⟩ a1).setCell ⟨b, 2, none⟩ a2).setCell ⟨b, 3, none⟩ a3).setCell ⟨b, 4, none⟩ a4).setCell ⟨b, 5, none⟩ a5).setCell ⟨b, 6, none⟩ a6) :=
  ⟨by have e := set_block (j := 6) (u := a6) (set_block (j := 5) (u := a5) (set_block (j := 4) (u := a4) (set_block (j := 3) (u := a3) (set_block (j := 2) (u := a2) (set_block (j := 1) (u := a1) (set_block (j := 0) (u := a0) h))))))
      simp only [List.setIfInBounds_toArray, List.set_cons_zero, List.set_cons_succ] at e
      exact e, ((((((Only.refl b w).set _ _).set _ _).set _ _).set _ _).set _ _).set _ _ |>.set _ _⟩
/-- a new block that was written over: the old ones stay -/
theorem RF.only {R b : Nat} {w w1 w' : World} (h : RF R w w1) (ho : Only b w1 w') (hb : w.heap.size ≤ b) : RF R w w' :=
  ⟨ho.os.trans h.os, ho.tape.trans h.tape, ho.output.trans h.output, by rw [← ho.size]; exact h.size, fun k h1 h2 => by rw [ho.block k (by omega), h.block k h1 h2]⟩
theorem Rd.only {w0 w w' : World} {R m b : Nat} {bs : List Nat} {room : Int} (h : Rd w0 w R m bs room) (ho : Only b w w') (hb : R < b) : Rd w0 w' R m bs room := by
  obtain ⟨a, cp, h1, h2⟩ := h.box
  refine ⟨⟨a, cp, by rw [ho.block R (by omega), h1], h2⟩, h.b8, h.len, ⟨ho.os.trans h.old.os, ho.tape.trans h.old.tape, ho.output.trans h.old.output, by rw [← ho.size]; exact h.old.size, fun k hk => ?_⟩, h.le⟩
  rw [ho.block k (by have := h.le; omega), h.old.block k hk]
theorem cells_of_block {w : World} {b : Nat} {C : Array Value} {t : TypeId} {fr : Nat × Nat} (h : w.heap[b]? = some (.cells C t fr)) : ∀ j u, C.toList[j]? = some u → w.cell? ⟨b, 0 + j, none⟩ = some u := by
  intro j u hj
  rw [Nat.zero_add]
  exact cell_of_block h (by simpa using hj)

/-- the end of a taker whose answer lives in the box that it laid first -/
theorem finish {fn : Func} {tm : Tmp} (hfn : fn.results = #[.cell tm 26]) {Q : Ending → World → Prop} {tmps : Array Value} {w0 w W : World} {R m : Nat} {room : Int} {res : RV} {rest : List Nat} {p : Pay} {c : Fo} {x0 x1 x2 x3 x4 x5 x6 iv lv : Value}
    (QOK : ∀ p c rest w' v, res = .ok ((p, c), rest) → RF R w w' → Rd w0 w' R m rest room → VX (fun b => w.heap.size ≤ b) w' p c v → Q (.returned v) w')
    (hp : tmps.getD tm undef = .pointer (some ⟨w.heap.size, 0, none⟩)) (hb : W.heap[w.heap.size]? = some (.cells #[x0, x1, x2, x3, x4, x5, x6] 26 (0, 0))) (hR : R < w.heap.size)
    (he : res = .ok ((p, c), rest)) (hf : RF R w W) (hrd : Rd w0 W R m rest room) (hx : VX (fun b => w.heap.size < b) W p c (.agg #[.int .i64 p.kind, .int .i64 p.key, .int .i64 p.elem, .int .i64 p.num, .string p.text, iv, lv])) :
    bodyPost Try.prog fn Q .ret { tmps := tmps, defers := [] } (((((((W.setCell ⟨w.heap.size, 0, none⟩ (.int .i64 p.kind)).setCell ⟨w.heap.size, 1, none⟩ (.int .i64 p.key)).setCell ⟨w.heap.size, 2, none⟩ (.int .i64 p.elem)).setCell ⟨w.heap.size, 3, none⟩ (.int .i64 p.num)).setCell ⟨w.heap.size, 4, none⟩ (.string p.text)).setCell ⟨w.heap.size, 5, none⟩ iv).setCell ⟨w.heap.size, 6, none⟩ lv) := by
  obtain ⟨s1, s2⟩ := store7 hb (.int .i64 p.kind) (.int .i64 p.key) (.int .i64 p.elem) (.int .i64 p.num) (.string p.text) iv lv
  refine bodyPost_ret (results_val hfn _ _ _ _ hp _ rfl (cells_of_block s1)) rfl ?_
  refine QOK p c rest _ _ he (hf.only s2 (Nat.le_refl _)) (hrd.only s2 hR) ?_
  exact (hx.kept fun k h1 h2 => s2.block k (by omega)).mono fun b h => Nat.le_of_lt h

theorem truthOf_1 (w : World) : Calls Try.prog 91 #[.int .u8 1] w fun e w' => e = .returned (.agg #[.int .i64 1, .int .i64 0, .int .i64 0, .int .i64 1, .string { data := #[] }, .slice none 0 0, .slice none 0 0]) ∧ Below w.heap.size w w' := by
  go_enter Try.func91, Try.ntmps91
  go_wp2
  refine bodyPost_ret (results_val rfl _ _ _ _ rfl _ rfl (alloc_cells _ _ _ _)) rfl ?_
  exact ⟨rfl, alloc_below _ _⟩
theorem truthOf_2 (w : World) : Calls Try.prog 91 #[.int .u8 2] w fun e w' => e = .returned (.agg #[.int .i64 1, .int .i64 0, .int .i64 0, .int .i64 0, .string { data := #[] }, .slice none 0 0, .slice none 0 0]) ∧ Below w.heap.size w w' := by
  go_enter Try.func91, Try.ntmps91
  go_wp2
  refine bodyPost_ret (results_val rfl _ _ _ _ rfl _ rfl (alloc_cells _ _ _ _)) rfl ?_
  exact ⟨rfl, alloc_below _ _⟩
theorem truthOf_no (c : Nat) (w : World) (h1 : ¬ c = 1) (h2 : ¬ c = 2) : Calls Try.prog 91 #[.int .u8 c] w fun e w' => e = gives false ∧ Below w.heap.size w w' := by
  have h1' : ¬ (c : Int) = 1 := by omega
  have h2' : ¬ (c : Int) = 2 := by omega
  go_enter Try.func91, Try.ntmps91
  go_wp2
  exact ⟨rfl, rfl, alloc_below _ _⟩

def rTruth : List Nat → RV
  | [] => .error true
  | c :: r => if c = 1 then .ok ((scal 1 1, .nil), r) else if c = 2 then .ok ((scal 1 0, .nil), r) else .error false

set_option maxRecDepth 10000 in
set_option maxHeartbeats 1000000 in
theorem truth_any (w0 w : World) (R m : Nat) (bs : List Nat) (room : Int) (h : Rd w0 w R m bs room) : TakesV 77 #[.pointer (some ⟨R, 0, none⟩)] w0 w R m room (rTruth bs) := by
  intro Q QOK QNO
  have hab := alloc_below w (.cells #[.int .i64 0, .int .i64 0, .int .i64 0, .int .i64 0, .string { data := #[] }, .slice none 0 0, .slice none 0 0] 26)
  have hR := h.lt
  cases bs with
  | nil =>
    have K := take_nil w0 _ R m room (h.later hab)
    go_enter Try.func77, Try.ntmps77
    go_wp2_with fail
    refine K.mono ?_
    rintro e wx ⟨rfl, hwx⟩
    obtain rfl := hwx.symm
    unfold gives
    go_wp2_with fail
    exact ⟨rfl, QNO true _ rfl (RF.of_below hab)⟩
  | cons c bs =>
    have K := take_cons w0 _ R m c bs room (h.later hab)
    have k1 : i64ok 1 := ⟨by omega, by omega⟩
    have k0 : i64ok 0 := ⟨by omega, by omega⟩
    by_cases c1 : c = 1
    · subst c1
      have HE : Hid (rTruth (1 :: bs) = .ok ((scal 1 1, .nil), bs)) := rfl
      go_enter Try.func77, Try.ntmps77
      go_wp2_with fail
      refine K.mono ?_
      rintro e wx ⟨rfl, hrd, hf⟩
      have hb2 := hf.box (heap_new w _) (Nat.ne_of_gt hR)
      go_wp2_with fail
      refine (truthOf_1 wx).mono ?_
      rintro e wy ⟨rfl, hwy⟩
      have hb3 := (RF.of_below (R := R) hwy).box hb2 (Nat.ne_of_gt hR)
      obtain ⟨⟨z0, z1, z2, z3, z4, z5, z6⟩, f0, f1, f2, f3, f4, f5, f6⟩ := blk7 hb3
      go_wp2_with fail
      exact finish (p := scal 1 1) (c := .nil) rfl QOK rfl hb3 hR HE.out ((RF.of_below hab).trans (hf.trans (RF.of_below hwy))) (hrd.later hwy) (vx_leaf (scal_ok k1 k1) rfl)
    by_cases c2 : c = 2
    · subst c2
      have HE : Hid (rTruth (2 :: bs) = .ok ((scal 1 0, .nil), bs)) := rfl
      go_enter Try.func77, Try.ntmps77
      go_wp2_with fail
      refine K.mono ?_
      rintro e wx ⟨rfl, hrd, hf⟩
      have hb2 := hf.box (heap_new w _) (Nat.ne_of_gt hR)
      go_wp2_with fail
      refine (truthOf_2 wx).mono ?_
      rintro e wy ⟨rfl, hwy⟩
      have hb3 := (RF.of_below (R := R) hwy).box hb2 (Nat.ne_of_gt hR)
      obtain ⟨⟨z0, z1, z2, z3, z4, z5, z6⟩, f0, f1, f2, f3, f4, f5, f6⟩ := blk7 hb3
      go_wp2_with fail
      exact finish (p := scal 1 0) (c := .nil) rfl QOK rfl hb3 hR HE.out ((RF.of_below hab).trans (hf.trans (RF.of_below hwy))) (hrd.later hwy) (vx_leaf (scal_ok k1 k0) rfl)
    · have HE : Hid (rTruth (c :: bs) = .error false) := by show _ = _; simp [rTruth, c1, c2]
      go_enter Try.func77, Try.ntmps77
      go_wp2_with fail
      refine K.mono ?_
      rintro e wx ⟨rfl, hrd, hf⟩
      go_wp2_with fail
      refine (truthOf_no c wx c1 c2).mono ?_
      rintro e wy ⟨rfl, hwy⟩
      unfold gives
      go_wp2_with fail
      exact ⟨rfl, QNO false _ HE.out ((RF.of_below hab).trans (hf.trans (RF.of_below hwy)))⟩

theorem i8_wrap (c : Nat) (h : c < 256) : IntKind.i8.wrap (c : Int) = if c < 128 then (c : Int) else (c : Int) - 256 := by
  have : ∀ m : Fin 256, IntKind.i8.wrap ((m.val : Nat) : Int) = if m.val < 128 then ((m.val : Nat) : Int) else ((m.val : Nat) : Int) - 256 := by decide +kernel
  exact this ⟨c, h⟩
def rSmall : List Nat → RV
  | [] => .error true
  | c :: r => .ok ((scal 3 (if c < 128 then (c : Int) else (c : Int) - 256), .nil), r)
set_option maxRecDepth 10000 in
set_option maxHeartbeats 1000000 in
theorem small_any (w0 w : World) (R m : Nat) (bs : List Nat) (room : Int) (h : Rd w0 w R m bs room) : TakesV 78 #[.pointer (some ⟨R, 0, none⟩)] w0 w R m room (rSmall bs) := by
  intro Q QOK QNO
  have hab := alloc_below w (.cells #[.int .i64 0, .int .i64 0, .int .i64 0, .int .i64 0, .string { data := #[] }, .slice none 0 0, .slice none 0 0] 26)
  have hR := h.lt
  cases bs with
  | nil =>
    have K := take_nil w0 _ R m room (h.later hab)
    go_enter Try.func78, Try.ntmps78
    go_wp2_with fail
    refine K.mono ?_
    rintro e wx ⟨rfl, hwx⟩
    obtain rfl := hwx.symm
    unfold gives
    go_wp2_with fail
    exact ⟨rfl, QNO true _ rfl (RF.of_below hab)⟩
  | cons c bs =>
    have K := take_cons w0 _ R m c bs room (h.later hab)
    have hc := h.b8 c (by simp)
    have hc' : (c : Int) < 256 := by omega
    obtain ⟨n, hn, hn1, hn2⟩ : ∃ n : Int, (if c < 128 then (c : Int) else (c : Int) - 256) = n ∧ -128 ≤ n ∧ n ≤ 127 := ⟨_, rfl, by split <;> omega, by split <;> omega⟩
    have e1 : IntKind.i8.wrap (c : Int) = n := by rw [← hn]; exact i8_wrap c hc
    have HE : Hid (rSmall (c :: bs) = .ok ((scal 3 n, .nil), bs)) := by show _ = _; simp only [rSmall, hn]
    clear hn
    go_enter Try.func78, Try.ntmps78
    go_wp2_with fail
    refine K.mono ?_
    rintro e wx ⟨rfl, hrd, hf⟩
    have hb2 := hf.box (heap_new w _) (Nat.ne_of_gt hR)
    obtain ⟨⟨z0, z1, z2, z3, z4, z5, z6⟩, f0, f1, f2, f3, f4, f5, f6⟩ := blk7 hb2
    go_wp2_with fail
    exact finish (p := scal 3 n) (c := .nil) rfl QOK rfl hb2 hR HE.out ((RF.of_below hab).trans hf) hrd (vx_leaf (scal_ok ⟨by omega, by omega⟩ ⟨by omega, by omega⟩) rfl)
end Go.Proofs.Ytikoddlidhefpaa
