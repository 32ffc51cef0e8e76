/-
  slices.Clone of bytes, and bits.Bits: the iterator goes over a copy.
-/
import Derived.Test.YtlajjkpcgokinaaBIter
import Derived.Test.YtlajjkpcgokinaaBPackAny
import Derived.WalkSpells
import Derived.Test.YtlajjkpcgokinaaBRUnp
namespace Go.Proofs.Ytlajjkpcgokinaa
open Go.ChangeShapes Go.WideShapes Go.ChangeAt Go.RowKit Go.Shelf

theorem num_src {w : World} {ad : Option Addr} {len cap B : Nat} (h : Src w ad len cap (c8 (upk 8 len B))) : NumAt w ad len B := by
  intro j hj
  have hl := h.1
  have hg : ∀ i, i < len → (c8 (upk 8 len B))[i]? = some (.int .u8 ((B / 2 ^ (8 * i) % 256 : Nat) : Int)) := by
    intro i hi
    unfold c8
    rw [List.getElem?_map, upk_get 8 len B i hi]
    rfl
  rcases h.2 with ⟨_, h1, _⟩ | ⟨p, h1, h2⟩
  · omega
  · obtain ⟨g, off, spot⟩ := p
    have hc := h2 j _ (hg j hj)
    have hc0 := h2 0 _ (hg 0 (by omega))
    have hspot : spot = none := by simpa [Addr.add] using World.cell?_spot hc0
    subst hspot
    refine ⟨g, off, h1, ?_⟩
    rw [← hc]
    unfold Addr.add
    split <;> simp_all
theorem bytesAt_num {w : World} {ad : Option Addr} {len B n₀ : Nat} (h : NumAt w ad len B) (hn : w.heap.size ≤ n₀) : BytesAt n₀ w ad len B := by
  intro j hj
  obtain ⟨g, off, e, hc⟩ := h j hj
  exact ⟨g, off, e, Nat.lt_of_lt_of_le (World.block_lt_of_cell? _ _ hc) hn, hc⟩

set_option maxRecDepth 100000 in
set_option maxHeartbeats 1000000 in
theorem bitsOf_v (ad : Option Addr) (len cap : Nat) (w : World) :
    Calls Try.prog 78 #[.slice ad len cap] w fun e w' => e = .returned (.func (.func 81) #[] #[.pointer (some ⟨w.heap.size, 0, none⟩)]) ∧ w' = w.alloc (.cells #[.slice ad len cap] 34) := by
  go_enter Try.func78, Try.ntmps78
  go_wp2
  go_ret
  exact ⟨rfl, rfl⟩

end Go.Proofs.Ytlajjkpcgokinaa
