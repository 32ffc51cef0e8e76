/-
  What the sum's methods fourSteps and take do to the sum behind their pointer: four steps, a byte taken. The table is a premise.
-/
import Derived.Test.YtjncjfefploneabDoorRows
import Derived.Test.YtjncjfefploneabDoorMath
import Derived.WalkKit
import Derived.ProofKit
import Derived.OpenShut
import Derived.RangeFuncNested
import Derived.RangeFuncBound
import Derived.RangeFuncCalls
import Derived.RangeFuncLeaves
import Derived.Shelf.Abstract
import Derived.Laws.BitsAllLaws
namespace Go.Proofs.YtjncjfefploneabDoor
open Go.ChangeShapes Go.WideShapes Go.ChangeAt Go.RowKit Go.Shelf

/-- the table lies in the block 0 -/
def Tab (w : World) : Prop := ∀ i, i < 16 → w.cell? ⟨0, i, none⟩ = some (.int .u32 ((tab.getD i 0 : Nat) : Int))
theorem Tab.pos {w : World} (h : Tab w) : 0 < w.heap.size := World.block_lt_of_cell? _ _ (h 0 (by omega))
theorem Tab.below {w w' : World} {n : Nat} (h : Tab w) (hb : Below n w w') (h0 : 0 < n) : Tab w' := fun i hi => (hb.cell (p := ⟨0, i, none⟩) h0).trans (h i hi)
theorem Tab.later {w w' : World} (h : Tab w) (hb : Below w.heap.size w w') : Tab w' := h.below hb h.pos

set_option maxHeartbeats 1000000 in
theorem four_any (b x : Nat) (w : World) (hx : x < 4294967296) (hb : Boxed w b 33 (.int .u32 x)) (ht : Tab w) (_h0 : 0 < b) :
    Calls Tryd.prog 14 #[.pointer (some ⟨b, 0, none⟩)] w fun e w' => e = .returned (.tuple #[]) ∧ Boxed w' b 33 (.int .u32 ((stps 4 x : Nat) : Int)) ∧ KeepsOthers w w' ∧ Below b w w' := by
  obtain ⟨q, hq⟩ : ∃ q : Nat, q = x % 16 := ⟨_, rfl⟩
  have hq16 : q < 16 := by omega
  have hq' : (q : Int) < 16 := by omega
  have a1 : bits .and .u32 (x : Int) 15 = (q : Int) := by
    have := u32_and_nat x 15 hx (by omega)
    rw [nat_mask4] at this
    rw [hq]; exact this
  have ht1 := ht q hq16
  have htl := tab_lt q hq16
  obtain ⟨t, hteq⟩ : ∃ t : Nat, t = tab.getD q 0 := ⟨_, rfl⟩
  rw [← hteq] at ht1 htl
  obtain ⟨y, hy⟩ : ∃ y : Nat, y = x / 16 := ⟨_, rfl⟩
  have a2 : (x : Int) / 16 = (y : Int) := by omega
  have a3 : bits .xor .u32 (y : Int) (t : Int) = ((y ^^^ t : Nat) : Int) := u32_xor_nat y t (by omega) htl
  have E : Hid (stps 4 x = y ^^^ t) := by show _ = _; rw [four_eq, ← hq, ← hteq, ← hy]
  have c1 := hb.cell
  have f1 := hb.frozen
  have HB : Hid _ := hb
  have hx' : (x : Int) < 4294967296 := by omega
  have hy' : (y : Int) < 268435456 := by omega
  clear hb ht hq hteq hy
  go_enter Tryd.func14, Tryd.ntmps14
  go_wp2
  go_end0
  rw [E.out]
  exact ⟨rfl, Boxed.set _ (Boxed.set _ HB.out), (KeepsOthers.setCell _ _ _).trans (KeepsOthers.setCell _ _ _), ((Below.refl b w).setCell (p := ⟨b, 0, none⟩) (Nat.le_refl _) _).setCell (p := ⟨b, 0, none⟩) (Nat.le_refl _) _⟩

set_option maxHeartbeats 1000000 in
theorem take_any (b x c : Nat) (w : World) (hx : x < 4294967296) (hc : c < 256) (hb : Boxed w b 33 (.int .u32 x)) (ht : Tab w) (h0 : 0 < b) :
    Calls Tryd.prog 12 #[.pointer (some ⟨b, 0, none⟩), .int .u8 c] w fun e w' => e = .returned (.tuple #[]) ∧ Boxed w' b 33 (.int .u32 ((tk x c : Nat) : Int)) ∧ KeepsOthers w w' ∧ Below b w w' := by
  have a1 : bits .xor .u32 (x : Int) (c : Int) = ((x ^^^ c : Nat) : Int) := u32_xor_nat x c hx (by omega)
  obtain ⟨y, hy⟩ : ∃ y : Nat, y = x ^^^ c := ⟨_, rfl⟩
  have hyl : y < 4294967296 := by rw [hy]; exact xor_lt hx (by omega)
  rw [← hy] at a1
  have E : Hid (tk x c = stps 4 (stps 4 y)) := by show tk x c = _; rw [← stps_add, hy]; rfl
  have c1 := hb.cell
  have f1 := hb.frozen
  have hx' : (x : Int) < 4294967296 := by omega
  have hc' : (c : Int) < 256 := by omega
  have g1 : Hid _ := Boxed.set (.int .u32 (y : Int)) hb
  have t1 : Hid _ := ht.below ((Below.refl b w).setCell (p := ⟨b, 0, none⟩) (Nat.le_refl _) (.int .u32 (y : Int))) h0
  clear hb ht hy
  go_enter Tryd.func12, Tryd.ntmps12
  go_wp2_with (go_at_call 14; refine (four_any b y _ hyl g1.out t1.out h0).mono ?_; rintro e w1 ⟨rfl, b1, k1, l1⟩)
  have t2 : Tab w1 := Tab.below t1.out l1 h0
  refine (four_any b (stps 4 y) _ (stps_lt 4 hyl) b1 t2 h0).mono ?_
  rintro e w2 ⟨rfl, b2, k2, l2⟩
  go_wp2
  go_end0
  rw [E.out]
  exact ⟨rfl, b2, ((KeepsOthers.setCell _ _ _).trans k1).trans k2, (((Below.refl b w).setCell (p := ⟨b, 0, none⟩) (Nat.le_refl _) _).trans l1).trans l2⟩
end Go.Proofs.YtjncjfefploneabDoor
