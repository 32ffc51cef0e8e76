/-
  slices.Values over bytes: its iterator hands on the bytes in order, till a round says no more.
-/
import Derived.RangeFuncNested
import Derived.RangeFuncBound
import Derived.RangeFuncCalls
import Derived.RangeFuncLeaves
import Derived.Shelf.Abstract
import Derived.WalkKit
import Derived.OwnWalkIn
import Derived.TacticsInMore
import Derived.LoopNIn
import Derived.LoopIn
import Derived.Test.YtjncjfefploneabDoorBase
namespace Go.Proofs.YtjncjfefploneabDoor
open Go.RowKit Go.Shelf

attribute [local go_sem] Oper.semAt_some

abbrev Byte := { c : Nat // c < 256 }
def upto {α : Type} (f : Nat → α) (k : Nat) : List α := (List.range k).map f
theorem upto_succ {α : Type} (f : Nat → α) (k : Nat) : upto f (k + 1) = upto f k ++ [f k] := by simp [upto, List.range_succ]
theorem upto_length {α : Type} (f : Nat → α) (k : Nat) : (upto f k).length = k := by simp [upto]

/-- bytes that lie below n₀ -/
def BytesAt (n₀ : Nat) (W : World) (ad : Option Addr) (len : Nat) (f : Nat → Byte) : Prop :=
  ∀ j, j < len → ∃ g off, ad = some ⟨g, off, none⟩ ∧ g < n₀ ∧ W.cell? ⟨g, off + j, none⟩ = some (.int .u8 (((f j).1 : Nat) : Int))
theorem BytesAt.below {n₀ : Nat} {A C : World} {ad : Option Addr} {len : Nat} {f : Nat → Byte} (h : BytesAt n₀ A ad len f) (hb : Below n₀ A C) : BytesAt n₀ C ad len f := by
  intro j hj
  obtain ⟨g, off, e, hg, hc⟩ := h j hj
  exact ⟨g, off, e, hg, (hb.cell (p := ⟨g, off + j, none⟩) hg).trans hc⟩

set_option maxRecDepth 100000 in
set_option maxHeartbeats 2000000 in
theorem values1_in (F : Fence) (n : Nat) (h26 : F.fn 13) (hro : F.round = none) (hn : 1 ≤ n) (l Bs n₀ len cap : Nat) (ad : Option Addr) (f : Nat → Byte) (hlen : len ≤ 1048576) (J Jx : List Byte → World → Prop)
    (hY : ∀ pre x W, J pre W → pre.length < len → YieldAt F (n - 1) Tryd.prog l #[.int .u8 ((x.1 : Nat) : Int)] W fun e W' =>
      (e = .returned (.bool true) ∧ J (pre ++ [x]) W' ∧ Below n₀ W W') ∨ (e = .returned (.bool false) ∧ Jx (pre ++ [x]) W'))
    (W : World) (hBs : W.cell? ⟨Bs, 0, none⟩ = some (.slice ad len cap)) (hc : BytesAt n₀ W ad len f) (h0 : J [] W) :
    CallsIn F n Tryd.prog 13 #[.func (.yield l) #[] #[], .pointer (some ⟨Bs, 0, none⟩)] W fun e W' => (∃ v, e = .returned v) ∧
      ((∃ ys, ys = upto f len ∧ J ys W') ∨ (∃ pre, (∃ k, k ≤ len ∧ pre = upto f k) ∧ Jx pre W')) := by
  refine callsIn_of_wp Tryd.func13 rfl h26 ?_ hro
  simp only [Tryd.ntmps13, List.size_toArray, List.length_cons, List.length_nil, Nat.reduceAdd, Nat.reduceSub, Array.replicate_succ, Array.replicate_zero, List.push_toArray, List.append_toArray, List.nil_append, List.cons_append]
  gi_wp2
  gi_loopw [7] (fun c wr => ∃ j : Nat, j ≤ len ∧ c = .int .i64 j ∧ J (upto f j) wr ∧ Below n₀ W wr)
    (fun c _ => len - (intOf c).toNat)
  case atStart => exact ⟨0, Nat.zero_le _, rfl, h0, Below.refl _ _⟩
  case round =>
    obtain ⟨j, hj, rfl, hJs, hnx⟩ := hrel
    by_cases hlt : j < len
    · have hlt' : (j : Int) < (len : Int) := by omega
      obtain ⟨g, off, rfl, hg, hcj⟩ := hc j hlt
      have hcx := (hnx.cell (p := ⟨g, off + j, none⟩) hg).trans hcj
      obtain ⟨fn, tmps, assign, body, hy, hR⟩ := hY _ (f j) wr hJs (by rw [upto_length]; omega)
      have HU : Hid _ := upto_succ f j
      clear hcj
      generalize f j = x at *
      gi_wp2
      refine hR.mono ?_
      rintro e W3 (⟨rfl, hJ3, hk3⟩ | ⟨rfl, hJx3⟩)
      · gi_wp2
        go_roundw
        case rel => exact ⟨j + 1, by omega, by go_num, by rw [HU.out]; exact hJ3, hnx.trans hk3⟩
        case measure => simp [intOf]; omega
      · gi_wp2
        refine bodyPost_ret (results_none rfl _ _ _) rfl ?_
        exact ⟨⟨_, rfl⟩, .inr ⟨_, ⟨j + 1, by omega, HU.out.symm⟩, hJx3⟩⟩
    · have hlt' : (len : Int) ≤ (j : Int) := by omega
      have HJ : Hid (j = len) := by show _ = _; omega
      gi_wp2
      go_end0
      exact ⟨⟨_, rfl⟩, .inl ⟨_, by rw [HJ.out], hJs⟩⟩

theorem values_stops (F : Fence) (n : Nat) (h26 : F.fn 13) (hro : F.round = none) (hn : 1 ≤ n) (Bs n₀ len cap : Nat) (ad : Option Addr) (f : Nat → Byte) (hlen : len ≤ 1048576) (w : World) (hBs : Bs < w.heap.size) (hn₀ : n₀ ≤ w.heap.size)
    (hc : w.cell? ⟨Bs, 0, none⟩ = some (.slice ad len cap)) (hI : BytesAt n₀ w ad len f) :
    SeqStopsK F n Tryd.prog 13 #[.pointer (some ⟨Bs, 0, none⟩)] (fun x : Byte => #[Value.int .u8 ((x.1 : Nat) : Int)]) (Below n₀) (fun ys => ys = upto f len) (fun pre => ∃ k, k ≤ len ∧ pre = upto f k) len w := fun l J Jx W hW _ _ hY h0 => by
  have hc' := (hW.cell (p := ⟨Bs, 0, none⟩) hBs).trans hc
  exact values1_in F n h26 hro hn l Bs n₀ len cap ad f hlen J Jx hY W hc' (hI.below (hW.mono hn₀)) h0

set_option maxHeartbeats 1000000 in
theorem values_v (ad : Option Addr) (len cap : Nat) (w : World) :
    Calls Tryd.prog 11 #[.slice ad len cap] w fun e w' => e = .returned (.func (.func 13) #[] #[.pointer (some ⟨w.heap.size, 0, none⟩)]) ∧ w' = w.alloc (.cells #[.slice ad len cap] 22) := by
  go_enter Tryd.func11, Tryd.ntmps11
  go_wp2
  go_ret
  exact ⟨rfl, rfl⟩
end Go.Proofs.YtjncjfefploneabDoor
