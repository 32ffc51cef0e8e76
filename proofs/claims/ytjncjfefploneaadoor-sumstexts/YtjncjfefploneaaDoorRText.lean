/-
  What the reference's Bytes and Text answer.
-/
import Derived.Test.YtjncjfefploneaaDoorBytes
namespace Go.Proofs.YtjncjfefploneaaDoor
open Go.ChangeShapes Go.WideShapes Go.ChangeAt Go.RowKit Go.Shelf

theorem own_new (w : World) (l : List Nat) (hl : l.length ≤ maxLen) : (w.alloc (.cells (c8 l).toArray 5)).ownsRow w.heap.size 5 1 (.slice (some ⟨w.heap.size, 0, none⟩) l.length l.length) l.length (c8 l) :=
  ⟨by simp [c8], .inr ⟨w.heap.size, l.length, _, rfl, Nat.le_refl _, World.alloc_heap_new w _, Nat.le_refl _, hl, by simp [c8], by rw [Nat.mul_one]; exact List.take_of_length_le (by simp [c8])⟩⟩

set_option maxHeartbeats 1000000 in
theorem rbytes_any (x : Nat) (w : World) (hx : x < 4294967296) :
    Calls Tryd.prog 18 #[.int .u32 x] w fun e w' => ∃ v, e = .returned v ∧ w'.ownsRow w.heap.size 5 1 v 4 (c8 (four8 x)) ∧ Below w.heap.size w w' := by
  have hx' : (x : Int) < 4294967296 := by omega
  go_enter Tryd.func18, Tryd.ntmps18
  go_wp2
  go_ret
  have e : #[Value.int .u8 ((x : Int) % 256), .int .u8 ((x : Int) / 256 % 256), .int .u8 ((x : Int) / 65536 % 256), .int .u8 ((x : Int) / 16777216)] = (c8 (four8 x)).toArray := by
    have h3 : (x : Int) / 16777216 = ((x / 16777216 % 256 : Nat) : Int) := by omega
    rw [h3]
    rfl
  rw [e]
  exact ⟨_, rfl, own_new w (four8 x) (by show 4 ≤ maxLen; decide), (Below.refl _ w).alloc (Nat.le_refl _) _⟩

set_option maxHeartbeats 1000000 in
theorem rtext_any (x : Nat) (w : World) (hx : x < 4294967296) :
    Calls Tryd.prog 21 #[.int .u32 x] w fun e w' => e = .returned (.string (strOfNums ((hxd 8 x).map fun n : Nat => (n : Int)))) ∧ Below w.heap.size w w' := by
  obtain ⟨i0, hi, hz0, hz1, hz2⟩ := info_parts Tryd.info5'
  go_enter Tryd.func21, Tryd.ntmps21
  go_wp2_with (at_make; refine wpList_make_full _ rfl _ _ 22 rfl w.heap.size 5 i0 (.int .u8 0) 1 Tryd.underlying22 hi hz0 hz1 _ _ _ _ 8 rfl rfl rfl rfl (by rw [hz2]; omega) (by unfold maxLen; omega) (Nat.le_refl _) ?_; intro w1 hown1 hgrow1)
  have hgb : Below w.heap.size w w1 := (Below.refl _ w).grown hgrow1 (Nat.le_refl _) (fun _ e => by cases e)
  clear hgrow1
  rw [made_zero, ← c8_zeros] at hown1
  go_loopw [0, 5] (fun s c wr => ∃ j m : Nat, j ≤ 8 ∧ c = .int .i64 (7 - j) ∧ s = .int .u32 m ∧ Hid (m = x / 16 ^ j) ∧ m < 4294967296 ∧ wr.ownsRow w.heap.size 5 1 (.slice (some ⟨w.heap.size, 0, none⟩) 8 8) 8 (c8 (List.replicate (8 - j) 0 ++ hxd j x)) ∧ Below w.heap.size w wr) (fun _ c _ => (intOf c + 1).toNat)
  case atStart => exact ⟨0, x, by omega, rfl, rfl, by show x = x / 16 ^ 0; simp, hx, hown1, hgb⟩
  case round =>
    obtain ⟨j, m, hj, rfl, rfl, H, hm, hown, hB⟩ := hrel
    clear hown1 hgb
    by_cases hlt : j < 8
    · have hlt' : (j : Int) < 8 := by omega
      obtain ⟨q, hq⟩ : ∃ q : Nat, q = m % 16 := ⟨_, rfl⟩
      have hq' : (q : Int) < 16 := by omega
      have a1 : (m : Int) % 16 = (q : Int) := by omega
      have HS : Hid _ := text_step hlt H.out hq hown
      have hc := text_cell hown (j := 7 - j) (by omega)
      obtain ⟨v0, hc⟩ := Option.isSome_iff_exists.1 hc
      have hf := hown.frozenAt (7 - j)
      have HD := digs q (by show q < 16; omega)
      clear hq hown
      go_wp2
      refine ⟨⟨j + 1, m / 16, by omega, ?_, by simp, div16 x m j H.out, by omega, HS.out, hB.setCell (p := ⟨w.heap.size, 7 - j, none⟩) (Nat.le_refl _) _⟩, by simp [intOf]; omega⟩
      exact congrArg (Value.int .i64) (by omega)
    · have hlt' : (8 : Int) ≤ (j : Int) := by omega
      have HJ : Hid (j = 8) := by show _ = _; omega
      have hown8 : wr.ownsRow w.heap.size 5 1 (.slice (some ⟨w.heap.size, 0, none⟩) 8 8) 8 (c8 (hxd 8 x)) := by
        have h := hown
        rw [HJ.out] at h
        simpa using h
      have s1 := str_own hown8
      clear hown hown8
      go_wp2
      go_ret
      exact ⟨rfl, hB⟩
end Go.Proofs.YtjncjfefploneaaDoor
