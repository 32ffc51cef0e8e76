/-
  What sums.Bytes answers: the four bytes of a sum, the lowest ahead.
-/
import Derived.Test.YtjncjfefploneaaDoorMem
namespace Go.Proofs.YtjncjfefploneaaDoor
open Go.ChangeShapes Go.WideShapes Go.ChangeAt Go.RowKit Go.Shelf

/-- the j lowest bytes -/
def lo : Nat → Nat → List Nat
  | 0, _ => []
  | j + 1, x => lo j x ++ [x / 256 ^ j % 256]
theorem lo_len : ∀ j x : Nat, (lo j x).length = j
  | 0, _ => rfl
  | j + 1, x => by simp [lo, lo_len j]
theorem lo_four (x : Nat) : lo 4 x = four8 x := by simp [lo, four8]
theorem made_zero (k : IntKind) (n : Nat) : (madeCells (Value.int k 0).cells (n * 1)).toList = List.replicate n (Value.int k 0) := by
  have e : (Value.int k 0).cells = #[Value.int k 0] := rfl
  rw [e]
  unfold madeCells
  apply List.ext_getElem
  · simp
  · intro i h1 h2
    simp [Nat.mod_one]
theorem c8_zeros (n : Nat) : c8 (List.replicate n 0) = List.replicate n (.int .u8 0) := by simp [c8]
theorem set_mid {α : Type} (l : List α) (x u : α) (m : Nat) : (l ++ List.replicate (m + 1) x).set l.length u = (l ++ [u]) ++ List.replicate m x := by
  rw [List.set_append_right _ _ (Nat.le_refl _)]
  simp [List.replicate_succ]
theorem bytes_step {w wr : World} {g x m j : Nat} (hj : j < 4) (hm : m = x / 256 ^ j)
    (hown : wr.ownsRow w.heap.size 5 1 (.slice (some ⟨g, 0, none⟩) 4 4) 4 (c8 (lo j x ++ List.replicate (4 - j) 0))) :
    (wr.setCell ⟨g, j, none⟩ (.int .u8 ((m : Int) % 256))).ownsRow w.heap.size 5 1 (.slice (some ⟨g, 0, none⟩) 4 4) 4 (c8 (lo (j + 1) x ++ List.replicate (4 - (j + 1)) 0)) := by
  have h := (hown.stored j (.int .u8 ((m : Int) % 256))).1
  have e2 := set_mid (lo j x) 0 (m % 256) (4 - (j + 1))
  rw [lo_len] at e2
  have e3 : c8 (lo (j + 1) x ++ List.replicate (4 - (j + 1)) 0) = (c8 (lo j x ++ List.replicate (4 - j) 0)).set j (.int .u8 ((m : Int) % 256)) := by
    unfold c8
    rw [show (Value.int .u8 ((m : Int) % 256)) = (fun b : Nat => Value.int .u8 (b : Int)) (m % 256) from by simp, ← List.map_set (f := fun b : Nat => Value.int .u8 (b : Int)), show 4 - j = 4 - (j + 1) + 1 from by omega, e2, hm]
    rfl
  rw [e3]
  exact h
theorem div256 (x m j : Nat) (h : m = x / 256 ^ j) : m / 256 = x / 256 ^ (j + 1) := by rw [h, Nat.pow_succ, Nat.div_div_eq_div_mul]

set_option maxHeartbeats 1000000 in
theorem bytes_any (x : Nat) (w : World) (hx : x < 4294967296) :
    Calls Tryd.prog 16 #[.int .u32 x] w fun e w' => ∃ v, e = .returned v ∧ w'.ownsRow w.heap.size 5 1 v 4 (c8 (four8 x)) ∧ Below w.heap.size w w' := by
  obtain ⟨i0, hi, hz0, hz1, hz2⟩ := info_parts Tryd.info5'
  go_enter Tryd.func16, Tryd.ntmps16
  go_wp2_with (at_make; refine wpList_make_full _ rfl _ _ 22 rfl w.heap.size 5 i0 (.int .u8 0) 1 Tryd.underlying22 hi hz0 hz1 _ _ _ _ 4 rfl rfl rfl rfl (by rw [hz2]; omega) (by unfold maxLen; omega) (Nat.le_refl _) ?_; intro w1 hown1 hgrow1)
  have hgb : Below w.heap.size w w1 := (Below.refl _ w).grown hgrow1 (Nat.le_refl _) (fun _ e => by cases e)
  clear hgrow1
  rw [made_zero, ← c8_zeros] at hown1
  go_loopw [0, 8] (fun s c wr => ∃ j m : Nat, j ≤ 4 ∧ c = .int .i64 j ∧ s = .int .u32 m ∧ Hid (m = x / 256 ^ j) ∧ m < 4294967296 ∧ wr.ownsRow w.heap.size 5 1 (.slice (some ⟨w.heap.size, 0, none⟩) 4 4) 4 (c8 (lo j x ++ List.replicate (4 - j) 0)) ∧ Below w.heap.size w wr) (fun _ c _ => 4 - (intOf c).toNat)
  case atStart => exact ⟨0, x, by omega, rfl, rfl, by show x = x / 256 ^ 0; simp, hx, hown1, hgb⟩
  case round =>
    obtain ⟨j, m, hj, rfl, rfl, H, hm, hown, hB⟩ := hrel
    clear hown1 hgb
    by_cases hlt : j < 4
    · have hlt' : (j : Int) < 4 := by omega
      have HS : Hid _ := bytes_step hlt H.out hown
      have hl : (lo j x ++ List.replicate (4 - j) 0).length = 4 := by simp [lo_len]; omega
      have hc := hown.cellAt j (by omega)
      rw [c8_get (by omega)] at hc
      have hf := hown.frozenAt j
      generalize (lo j x ++ List.replicate (4 - j) 0).getD j 0 = z at *
      clear hown hl
      go_wp2
      exact ⟨⟨j + 1, m / 256, by omega, by go_num, by simp, div256 x m j H.out, by omega, HS.out, hB.setCell (p := ⟨w.heap.size, j, none⟩) (Nat.le_refl _) _⟩, by simp [intOf]; omega⟩
    · have hlt' : (4 : Int) ≤ (j : Int) := by omega
      have HJ : Hid (j = 4) := by show _ = _; omega
      have HO : Hid _ := hown
      clear hown
      go_wp2
      go_ret
      refine ⟨_, rfl, ?_, hB⟩
      have h : wr.ownsRow w.heap.size 5 1 (.slice (some ⟨w.heap.size, 0, none⟩) 4 4) 4 (c8 (lo j x ++ List.replicate (4 - j) 0)) := HO.out
      rw [HJ.out, show List.replicate (4 - 4) 0 = [] from rfl, List.append_nil, lo_four] at h
      exact h
end Go.Proofs.YtjncjfefploneaaDoor
