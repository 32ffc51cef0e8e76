/-
  The ways of fields, and a new reader.
-/
import Derived.Test.YtikoddlidhefpaaRdH
namespace Go.Proofs.Ytikoddlidhefpaa
set_option linter.unusedVariables false
set_option linter.unusedSimpArgs false
open Go.ChangeShapes Go.WideShapes Go.ChangeAt Go.RowKit Go.Deep

set_option maxRecDepth 10000 in
set_option maxHeartbeats 1000000 in
theorem fieldWay1_any (w0 w : World) (R m : Nat) (bs : List Nat) (room : Int) (b : Nat) (k : Int) (hk : k = 1 ∨ k = 2) (h : Rd w0 w R m bs room) (kb : w.heap[b]? = some (.cells #[.int .i64 k] 3 (0, 0))) :
    TakesV 103 #[.pointer (some ⟨b, 0, none⟩)] w0 w R m room (.ok ((scal 1 (if k = 1 then 1 else 0), .nil), bs)) := by
  intro Q QOK QNO
  have hab : Below w.heap.size w (zbox w) := alloc_below w _
  have hR := h.lt
  have c1 : w.cell? ⟨b, 0, none⟩ = some (.int .i64 k) := cell_of_block kb rfl
  have l1 : b < w.heap.size := block_lt_of_cell c1
  have k1 : i64ok 1 := ⟨by omega, by omega⟩
  have k0 : i64ok 0 := ⟨by omega, by omega⟩
  rcases hk with rfl | rfl
  · have T := truthOf_1 (zbox w)
    go_enter Try.func103, Try.ntmps103
    go_wp2_with fail
    refine T.mono ?_
    rintro e wy ⟨rfl, hwy⟩
    have hb3 := (RF.of_below (R := R) hwy).box (heap_new w _) (Nat.ne_of_gt hR)
    obtain ⟨⟨z0, z1, z2, z3, z4, z5, z6⟩, f0, f1, f2, f3, f4, f5, f6⟩ := blk7 hb3
    go_wp2_with fail
    exact finish (p := scal 1 1) (c := .nil) rfl QOK rfl hb3 hR rfl ((RF.of_below hab).trans (RF.of_below hwy)) ((h.later hab).later hwy) (vx_leaf (scal_ok k1 k1) rfl)
  · have T := truthOf_2 (zbox w)
    go_enter Try.func103, Try.ntmps103
    go_wp2_with fail
    refine T.mono ?_
    rintro e wy ⟨rfl, hwy⟩
    have hb3 := (RF.of_below (R := R) hwy).box (heap_new w _) (Nat.ne_of_gt hR)
    obtain ⟨⟨z0, z1, z2, z3, z4, z5, z6⟩, f0, f1, f2, f3, f4, f5, f6⟩ := blk7 hb3
    go_wp2_with fail
    exact finish (p := scal 1 0) (c := .nil) rfl QOK rfl hb3 hR rfl ((RF.of_below hab).trans (RF.of_below hwy)) ((h.later hab).later hwy) (vx_leaf (scal_ok k1 k0) rfl)

set_option maxRecDepth 10000 in
set_option maxHeartbeats 1000000 in
theorem fieldWay_truth (w0 w : World) (R m : Nat) (bs : List Nat) (room k : Int) (hk : k = 1 ∨ k = 2) (h : Rd w0 w R m bs room) :
    Calls Try.prog 99 #[.pointer (some ⟨R, 0, none⟩), .int .i64 k] w fun e w' => e = .returned (.func (.func 103) #[] #[.pointer (some ⟨w.heap.size, 0, none⟩)]) ∧ w' = w.alloc (.cells #[.int .i64 k] 3) := by
  have hmf : ∀ (fn : Fn) (first cap : Array Value) (w : World), (Instr.makeFunc fn first cap).run Try.prog w = .ok (.func fn first cap) w := fun _ _ _ _ => rfl
  rcases hk with rfl | rfl
  · go_enter Try.func99, Try.ntmps99
    go_wp2_with fail
    go_ret
    exact ⟨rfl, rfl⟩
  · go_enter Try.func99, Try.ntmps99
    go_wp2_with fail
    go_ret
    exact ⟨rfl, rfl⟩
set_option maxRecDepth 10000 in
set_option maxHeartbeats 1000000 in
theorem fieldWay_ok (w0 w : World) (R m : Nat) (bs : List Nat) (room k : Int) (h1 : ¬ k = 1) (h2 : ¬ k = 2) (h : Rd w0 w R m bs room) (hw : Ways w R m) (ho : wayOk k room = true) :
    Calls Try.prog 99 #[.pointer (some ⟨R, 0, none⟩), .int .i64 k] w fun e w' => (∃ fn fa fb, e = .returned (.func fn fa fb) ∧ WayIs w' R k (.func fn fa fb)) ∧ w' = w.alloc (.cells #[.int .i64 k] 3) := by
  have e12 : (k == 1 || k == 2) = false := by simp; omega
  have hab := alloc_below w (.cells #[.int .i64 k] 3)
  have K := way_ok w0 _ R m bs room k (h.later hab) (hw.rf (RF.of_below hab)) ho
  go_enter Try.func99, Try.ntmps99
  go_wp2_with fail
  refine K.mono ?_
  rintro e wx ⟨⟨fn, fa, fb, rfl, hi⟩, hwx⟩
  subst hwx
  go_wp2_with fail
  go_ret
  exact ⟨⟨fn, fa, fb, rfl, hi⟩, rfl⟩
set_option maxRecDepth 10000 in
set_option maxHeartbeats 1000000 in
theorem fieldWay_bad (w0 w : World) (R m : Nat) (bs : List Nat) (room k : Int) (h1 : ¬ k = 1) (h2 : ¬ k = 2) (h : Rd w0 w R m bs room) (hw : Ways w R m) (ho : wayOk k room = false) :
    Calls Try.prog 99 #[.pointer (some ⟨R, 0, none⟩), .int .i64 k] w fun e w' => e = gives false ∧ w' = w.alloc (.cells #[.int .i64 k] 3) := by
  have e12 : (k == 1 || k == 2) = false := by simp; omega
  have hab := alloc_below w (.cells #[.int .i64 k] 3)
  have K := way_bad w0 _ R m bs room k (h.later hab) (hw.rf (RF.of_below hab)) ho
  go_enter Try.func99, Try.ntmps99
  go_wp2_with fail
  refine K.mono ?_
  rintro e wx ⟨rfl, hwx⟩
  subst hwx
  unfold gives
  go_wp2_with fail
  exact ⟨rfl, rfl, rfl⟩

set_option maxRecDepth 10000 in
set_option maxHeartbeats 1000000 in
theorem newReader_any (w : World) (a : Option Addr) (bs : List Nat) (cp : Nat) (hs : Src w a bs.length cp (c8 bs)) (hc : bs.length ≤ cp) (hl : bs.length ≤ 140737488355328) (hb : ∀ c ∈ bs, c < 256) :
    Calls Try.prog 38 #[.slice a bs.length cp] w fun e w' => ∃ m, e = .returned (.pointer (some ⟨w.heap.size, 0, none⟩)) ∧ Rd w w' w.heap.size m bs 32 ∧ Ways w' w.heap.size m ∧ Below w.heap.size w w' := by
  obtain ⟨L, hL⟩ : ∃ L, L = bs.length := ⟨_, rfl⟩
  rw [← hL] at hs hc hl ⊢
  have HL : Hid (L = bs.length) := hL
  clear hL
  have hab := alloc_below w (.cells #[.slice a L cp, .int .i64 32, .map none] 72)
  have K := waysOf_any (w.alloc (.cells #[.slice a L cp, .int .i64 32, .map none] 72)) w.heap.size (by simp)
  go_enter Try.func38, Try.ntmps38
  go_wp2_with fail
  refine K.mono ?_
  rintro e wx ⟨M, rfl, hw, hbx⟩
  have hbox : wx.heap[w.heap.size]? = some (.cells #[.slice a L cp, .int .i64 32, .map none] 72 (0, 0)) := below_at hbx (heap_new w _)
  have c2 : wx.cell? ⟨w.heap.size, 2, none⟩ = some (.map none) := cell_of_block hbox rfl
  have f2 : wx.frozen? ⟨w.heap.size, 2, none⟩ = false := frozen_of_block hbox
  have hbf := hab.trans (hbx.mono hab.size)
  go_wp2_with fail
  go_ret
  have hset := set_block (j := 2) (u := .map (some M)) hbox
  simp only [List.setIfInBounds_toArray, List.set_cons_zero, List.set_cons_succ] at hset
  have hb2 : Below w.heap.size w (wx.setCell ⟨w.heap.size, 2, none⟩ (.map (some M))) := hbf.setCell (Nat.le_refl _) _
  refine ⟨M, rfl, ⟨⟨a, cp, by rw [← HL.out]; exact hset, by rw [← HL.out]; exact hs, by rw [← HL.out]; exact hc⟩, hb, by rw [← HL.out]; exact hl, hb2, Nat.le_refl _⟩, hw.rf (RF.setCell _ _ _), hb2⟩
end Go.Proofs.Ytikoddlidhefpaa
