/-
  bits.Unpack and the reference's Unpack answer the same, refusals too.
-/
import Derived.Test.YtignjhmbajiphaaBUnp
import Derived.Test.YtignjhmbajiphaaBClone
namespace Go.Proofs.Ytignjhmbajiphaa
open Go.ChangeShapes Go.WideShapes Go.ChangeAt Go.RowKit

theorem row_num8 {w : World} {a : Option Addr} {l c : Nat} {z : List Int} (h : IsRow .u8 w a l c z) : ∃ B : Nat, B < 2 ^ (8 * l) ∧ Src w a l c (c8 (upk 8 l B)) := by
  have hb : ∀ x ∈ z.take l, 0 ≤ x ∧ x ≤ 255 := by
    intro x hx
    have hx' := List.mem_of_mem_take hx
    rcases h with ⟨_, _, _, rfl⟩ | ⟨_, _, _, _, _, _, hw⟩
    · cases hx'
    · simpa [Lit.wf, IntKind.min, IntKind.max, IntKind.signed, IntKind.bits] using hw x hx'
  have hl : (z.take l).length = l := by have := h.len_le; rw [List.length_take]; omega
  have s := h.src
  generalize z.take l = zs at *
  have hf : Fit 8 (zs.map Int.toNat) := by
    intro n hn
    obtain ⟨x, hx, rfl⟩ := List.mem_map.1 hn
    have := hb x hx
    omega
  have hll : (zs.map Int.toNat).length = l := by rw [List.length_map, hl]
  refine ⟨pk 8 (zs.map Int.toNat), ?_, ?_⟩
  · have := pk_lt 8 _ hf
    rwa [hll] at this
  have e : upk 8 l (pk 8 (zs.map Int.toNat)) = zs.map Int.toNat := by
    rw [← hll]
    exact upk_pk 8 _ hf
  rw [e]
  unfold c8
  rw [List.map_map]
  rw [show zs.map ((fun b : Nat => Value.int .u8 (b : Int)) ∘ Int.toNat) = zs.map (Value.int .u8) from List.map_congr_left (fun x hx => by
    have := hb x hx
    show Value.int .u8 ((x.toNat : Nat) : Int) = _
    rw [Int.toNat_of_nonneg this.1])]
  exact s

theorem c64_ints (l : List Nat) : c64 l = (ints l).map (Value.int .u64) := by simp [c64, ints]
theorem i64_wf {a : Int} (h : (Lit.int .i64 a).wf = true) : -9223372036854775808 ≤ a ∧ a ≤ 9223372036854775807 := by
  simpa [Lit.wf, IntKind.min, IntKind.max, IntKind.signed, IntKind.bits] using h

/-- when it is unpacked, and into what -/
def UpkOk (wd ct : Int) (len B : Nat) (L : List Nat) : Prop := ∃ W c : Nat, wd = W ∧ ct = c ∧ sze W c = 0 ∧ len = (c * W + 7) / 8 ∧ B < 2 ^ (W * c) ∧ L = upk W c B

end Go.Proofs.Ytignjhmbajiphaa
