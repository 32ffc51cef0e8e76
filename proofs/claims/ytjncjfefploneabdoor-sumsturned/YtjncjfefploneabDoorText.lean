/-
  What sums.Text answers: eight digits to the base 16.
-/
import Derived.Test.YtjncjfefploneabDoorOf
import Derived.Laws.BytesArg
namespace Go.Proofs.YtjncjfefploneabDoor
open Go.ChangeShapes Go.WideShapes Go.ChangeAt Go.RowKit Go.Shelf

/-- a digit's sign -/
def dig (d : Nat) : Nat := if d < 10 then 48 + d else 87 + d
/-- the j lowest digits to the base 16, the highest ahead -/
def hxd : Nat → Nat → List Nat
  | 0, _ => []
  | j + 1, x => dig (x / 16 ^ j % 16) :: hxd j x
theorem hxd_len : ∀ j x : Nat, (hxd j x).length = j
  | 0, _ => rfl
  | j + 1, x => by simp [hxd, hxd_len j]

theorem digs (q : Nat) (h : q < ({ data := #[48, 49, 50, 51, 52, 53, 54, 55, 56, 57, 97, 98, 99, 100, 101, 102] } : ByteArray).size) :
    ({ data := #[48, 49, 50, 51, 52, 53, 54, 55, 56, 57, 97, 98, 99, 100, 101, 102] } : ByteArray)[q].toNat = dig q := by
  have h' : q < 16 := h
  have key : ∀ k : Fin 16, ({ data := #[48, 49, 50, 51, 52, 53, 54, 55, 56, 57, 97, 98, 99, 100, 101, 102] } : ByteArray)[k.1].toNat = dig k.1 := by decide
  exact key ⟨q, h'⟩
theorem set_front {α : Type} (n : Nat) (z u : α) (l : List α) : (List.replicate (n + 1) z ++ l).set n u = List.replicate n z ++ u :: l := by
  rw [List.set_append_left _ _ (by simp), List.replicate_succ', List.set_append_right _ _ (by simp)]
  simp
/-- a round: the next digit is laid ahead of the others -/
theorem text_step {w wr : World} {g : Nat} {e : TypeId} {x j m q : Nat} (hj : j < 8) (hm : m = x / 16 ^ j) (hq : q = m % 16)
    (hown : wr.ownsRow w.heap.size e 1 (.slice (some ⟨g, 0, none⟩) 8 8) 8 (c8 (List.replicate (8 - j) 0 ++ hxd j x))) :
    (wr.setCell ⟨g, 7 - j, none⟩ (.int .u8 ((dig q : Nat) : Int))).ownsRow w.heap.size e 1 (.slice (some ⟨g, 0, none⟩) 8 8) 8 (c8 (List.replicate (8 - (j + 1)) 0 ++ hxd (j + 1) x)) := by
  have h := (hown.stored (7 - j) (.int .u8 ((dig q : Nat) : Int))).1
  have e2 := set_front (7 - j) 0 (dig q) (hxd j x)
  have e3 : c8 (List.replicate (8 - (j + 1)) 0 ++ hxd (j + 1) x) = (c8 (List.replicate (8 - j) 0 ++ hxd j x)).set (7 - j) (.int .u8 ((dig q : Nat) : Int)) := by
    unfold c8
    rw [← List.map_set (f := fun b : Nat => Value.int .u8 (b : Int)), show 8 - j = 7 - j + 1 from by omega, e2, show 8 - (j + 1) = 7 - j from by omega, hq, hm]
    rfl
  rw [e3]
  exact h
theorem text_cell {w wr : World} {g : Nat} {e : TypeId} {l : List Nat} {j : Nat}
    (hown : wr.ownsRow w.heap.size e 1 (.slice (some ⟨g, 0, none⟩) 8 8) 8 (c8 l)) (hj : j < 8) : (wr.cell? ⟨g, j, none⟩).isSome = true := by
  have hl : l.length = 8 := by have := hown.1; rw [c8_len] at this; omega
  rw [hown.cellAt j hj, c8_get (by omega)]
  rfl
theorem str_own {w : World} {B : Nat} {e : TypeId} {v : Value} {n : Nat} {l : List Nat} (h : w.ownsRow B e 1 v n (c8 l)) :
    Sem.run Tryd.prog (convert 22 9 v) w = .ok (.string (strOfNums (l.map fun n : Nat => (n : Int)))) w := by
  have hl := h.1
  rw [c8_len] at hl
  rcases h.2 with ⟨rfl, rfl⟩ | ⟨g, cap, cur, rfl, h2, h3, h4⟩
  · have e : l = [] := by simpa using hl
    subst e
    exact run_convert_bytes_nil w 22 5 Tryd.underlying22 Tryd.underlying5 0 0 9 Tryd.underlying9
  · refine run_convert_bytes_arg w 22 5 Tryd.underlying22 Tryd.underlying5 g 0 n cap _ (by simpa using hl) (fun i hi => ?_) 9 Tryd.underlying9
    have hx : i < l.length := by omega
    rw [Nat.zero_add, h.cellAt i (by omega), c8_get hx]
    simp [List.getD, List.getElem?_eq_getElem hx]
theorem div16 (x m j : Nat) (h : m = x / 16 ^ j) : m / 16 = x / 16 ^ (j + 1) := by rw [h, Nat.pow_succ, Nat.div_div_eq_div_mul]

set_option maxHeartbeats 1000000 in
theorem text_any (x : Nat) (w : World) (hx : x < 4294967296) :
    Calls Tryd.prog 10 #[.int .u32 x] w fun e w' => e = .returned (.string (strOfNums ((hxd 8 x).map fun n : Nat => (n : Int)))) ∧ Below w.heap.size w w' := by
  go_enter Tryd.func10, Tryd.ntmps10
  go_wp2
  go_loopw [0, 4] (fun s c wr => ∃ j m : Nat, j ≤ 8 ∧ c = .int .i64 (7 - j) ∧ s = .int .u32 m ∧ Hid (m = x / 16 ^ j) ∧ m < 4294967296 ∧ wr.ownsRow w.heap.size 39 1 (.slice (some ⟨w.heap.size, 0, none⟩) 8 8) 8 (c8 (List.replicate (8 - j) 0 ++ hxd j x)) ∧ Below w.heap.size w wr) (fun _ c _ => (intOf c + 1).toNat)
  case atStart =>
    refine ⟨0, x, by omega, rfl, rfl, by show x = x / 16 ^ 0; simp, hx, ⟨rfl, .inr ⟨w.heap.size, 8, _, rfl, Nat.le_refl _, World.alloc_heap_new w _, by omega, by decide, rfl, rfl⟩⟩, (Below.refl _ w).alloc (Nat.le_refl _) _⟩
  case round =>
    obtain ⟨j, m, hj, rfl, rfl, H, hm, hown, hB⟩ := hrel
    by_cases hlt : j < 8
    · have hlt' : (j : Int) < 8 := by omega
      obtain ⟨q, hq⟩ : ∃ q : Nat, q = m % 16 := ⟨_, rfl⟩
      have hq' : (q : Int) < 16 := by omega
      have a1 : bits .and .u32 (m : Int) 15 = (q : Int) := by
        have := u32_and_nat m 15 hm (by omega)
        rw [nat_mask4] at this
        rw [hq]; exact this
      have HS : Hid _ := text_step hlt H.out hq hown
      have hc := text_cell hown (j := 7 - j) (by omega)
      obtain ⟨v0, hc⟩ := Option.isSome_iff_exists.1 hc
      have hf := hown.frozenAt (7 - j)
      have HD := digs q (by show q < 16; omega)
      clear hq hown
      go_wp2
      refine ⟨⟨j + 1, m / 16, by omega, ?_, by simp, div16 x m j H.out, by omega, HS.out, hB.setCell (p := ⟨w.heap.size, 7 - j, none⟩) (Nat.le_refl _) _⟩, by simp [intOf]; omega⟩
      exact congrArg (Value.int .i64) (by omega)
    · have hlt' : (8 : Int) ≤ (j : Int) := by omega
      have HJ : Hid (j = 8) := by show _ = _; omega
      have hown8 : wr.ownsRow w.heap.size 39 1 (.slice (some ⟨w.heap.size, 0, none⟩) 8 8) 8 (c8 (hxd 8 x)) := by
        have h := hown
        rw [HJ.out] at h
        simpa using h
      have s1 := str_own hown8
      clear hown hown8
      go_wp2
      go_ret
      exact ⟨rfl, hB⟩

set_option maxHeartbeats 1000000 in
theorem stext_any (x : Nat) (w : World) (hx : x < 4294967296) :
    Calls Tryd.prog 8 #[.int .u32 x] w fun e w' => e = .returned (.string (strOfNums ((hxd 8 x).map fun n : Nat => (n : Int)))) ∧ Below w.heap.size w w' := by
  go_enter Tryd.func8, Tryd.ntmps8
  go_wp2_with (go_at_call 10; refine (text_any x _ hx).mono ?_; rintro e w1 ⟨rfl, hb⟩)
  go_ret
  exact ⟨rfl, hb⟩
set_option maxHeartbeats 1000000 in
theorem num_any (x : Int) (w : World) : Calls Tryd.prog 7 #[.int .i64 x] w fun e w' => e = .returned (.int .i64 x) ∧ w' = w := by
  go_enter Tryd.func7, Tryd.ntmps7
  go_wp2
  go_ret
  exact ⟨rfl, rfl⟩
end Go.Proofs.YtjncjfefploneabDoor
