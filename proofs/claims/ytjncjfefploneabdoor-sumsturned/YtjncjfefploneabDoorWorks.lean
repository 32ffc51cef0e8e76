/-
  The chapter's sums: works() is true.
-/
import Derived.Test.YtjncjfefploneabDoorText
import Derived.Lib.SlBytesConst
namespace Go.Proofs.YtjncjfefploneabDoor
open Go.ChangeShapes Go.WideShapes Go.ChangeAt Go.RowKit Go.Shelf

/-- bytes that are written out, in a block of their own -/
theorem src_new (w : World) (l : List Nat) (e : TypeId) (fr : Nat × Nat) (c : Nat) : Src (w.alloc (.cells (c8 l).toArray e fr)) (some ⟨w.heap.size, 0, none⟩) l.length c (c8 l) := by
  refine ⟨c8_len l, .inr ⟨_, rfl, fun j u hj => ?_⟩⟩
  have h : (w.alloc (.cells (c8 l).toArray e fr)).heap[w.heap.size]? = some (.cells (c8 l).toArray e fr) := World.alloc_heap_new w _
  have hp : (⟨w.heap.size, 0, none⟩ : Addr).add j = ⟨w.heap.size, j, none⟩ := by unfold Addr.add; split <;> simp_all
  rw [hp]
  unfold World.cell?
  rw [h]
  simpa using hj

theorem of_w (w : World) : Calls Tryd.prog 6 #[.slice (some ⟨w.heap.size, 0, none⟩) 4 4] (w.alloc (.cells #[.int .u8 38, .int .u8 57, .int .u8 244, .int .u8 203] 5)) fun e w' =>
    e = .returned (.tuple #[.int .u32 3421780262, .int .i64 0]) ∧ w' = w.alloc (.cells #[.int .u8 38, .int .u8 57, .int .u8 244, .int .u8 203] 5) :=
  of_four _ 4 [38, 57, 244, 203] _ (src_new w [38, 57, 244, 203] 5 (0, 0) 4) (by intro c hc; simp at hc; omega)
theorem upd_9 : upd 0 [49, 50, 51, 52, 53, 54, 55, 56, 57] = 3421780262 := by decide +kernel
theorem upd_1 : upd 0 [0] = 3523407757 := by decide +kernel
theorem crc_9 (w : World) (ht : Tab w) : Calls Tryd.prog 5 #[.slice (some ⟨w.heap.size, 0, none⟩) 9 9] (w.alloc (.cells #[.int .u8 49, .int .u8 50, .int .u8 51, .int .u8 52, .int .u8 53, .int .u8 54, .int .u8 55, .int .u8 56, .int .u8 57] 5 (9, 10))) fun e w' =>
    e = .returned (.int .u32 3421780262) ∧ Below w.heap.size w w' := by
  have hb : Below w.heap.size w (w.alloc (.cells (c8 [49, 50, 51, 52, 53, 54, 55, 56, 57]).toArray 5 (9, 10))) := (Below.refl _ w).alloc (Nat.le_refl _) _
  have h := crc_any _ 9 9 [49, 50, 51, 52, 53, 54, 55, 56, 57] _ (by omega) (src_new w [49, 50, 51, 52, 53, 54, 55, 56, 57] 5 (9, 10) 9) (by intro c hc; simp at hc; omega) (ht.later hb)
  rw [upd_9] at h
  refine Calls.mono h ?_
  rintro e w' ⟨rfl, h2⟩
  exact ⟨rfl, hb.trans (h2.mono hb.size)⟩
theorem crc_1 (w : World) (ht : Tab w) : Calls Tryd.prog 5 #[.slice (some ⟨w.heap.size, 0, none⟩) 1 1] (w.alloc (.cells #[.int .u8 0] 5)) fun e w' =>
    e = .returned (.int .u32 3523407757) ∧ Below w.heap.size w w' := by
  have hb : Below w.heap.size w (w.alloc (.cells (c8 [0]).toArray 5)) := (Below.refl _ w).alloc (Nat.le_refl _) _
  have h := crc_any _ 1 1 [0] _ (by omega) (src_new w [0] 5 (0, 0) 1) (by intro c hc; simp at hc; omega) (ht.later hb)
  rw [upd_1] at h
  refine Calls.mono h ?_
  rintro e w' ⟨rfl, h2⟩
  exact ⟨rfl, hb.trans (h2.mono hb.size)⟩
theorem text_1 (w : World) : Calls Tryd.prog 8 #[.int .u32 1] w fun e w' => e = .returned (.string { data := #[48, 48, 48, 48, 48, 48, 48, 49] }) ∧ Below w.heap.size w w' := stext_any 1 w (by omega)

set_option maxRecDepth 100000 in
set_option maxHeartbeats 4000000 in
theorem works_any (w : World) (ht : Tab w) : Calls Tryd.prog 4 #[] w fun e w' => e = .returned (.bool true) ∧ Below w.heap.size w w' := by
  have kc := fun (w : World) (C : Array Value) (n c : Nat) => Lib.run_convert_bytes_const (P := Tryd.prog) w 22 5 C n c Tryd.underlying22 Tryd.underlying5
  go_enter Tryd.func4, Tryd.ntmps4
  go_wp2_with fail
  refine (of_w w).mono ?_
  rintro e wx ⟨rfl, hwx⟩
  subst hwx
  have hb0 : Below w.heap.size w (w.alloc (.cells #[.int .u8 38, .int .u8 57, .int .u8 244, .int .u8 203] 5)) := (Below.refl _ w).alloc (Nat.le_refl _) _
  generalize w.alloc (.cells #[.int .u8 38, .int .u8 57, .int .u8 244, .int .u8 203] 5) = W0 at hb0 ⊢
  go_wp2_with fail
  refine (crc_9 W0 (ht.later hb0)).mono ?_
  rintro e W1 ⟨rfl, hb1⟩
  have hb01 := hb0.trans (hb1.mono hb0.size)
  go_wp2_with fail
  refine (crc_1 W1 (ht.later hb01)).mono ?_
  rintro e W2 ⟨rfl, hb2⟩
  have hb02 := hb01.trans (hb2.mono hb01.size)
  go_wp2_with fail
  refine (num_any 0 W2).mono ?_
  rintro e wx ⟨rfl, hwx⟩
  obtain rfl := hwx.symm
  go_wp2_with fail
  refine (text_1 W2).mono ?_
  rintro e W3 ⟨rfl, hb3⟩
  have hb03 := hb02.trans (hb3.mono hb02.size)
  go_wp2
  go_ret
  exact ⟨rfl, hb03⟩
end Go.Proofs.YtjncjfefploneabDoor
