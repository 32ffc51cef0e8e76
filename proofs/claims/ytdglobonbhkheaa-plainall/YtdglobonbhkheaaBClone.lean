/-
  slices.Clone of bytes, and bits.Bits: the iterator goes over a copy.
-/
import Derived.Test.YtdglobonbhkheaaBIter
import Derived.Test.YtdglobonbhkheaaJ5
import Derived.WalkSpells
import Derived.Test.YtdglobonbhkheaaBRUnp
namespace Go.Proofs.Ytdglobonbhkheaa
open Go.ChangeShapes Go.WideShapes Go.ChangeAt Go.RowKit Go.Shelf

set_option maxRecDepth 100000 in
set_option maxHeartbeats 1000000 in
theorem clone_nil (w : World) : Calls Try.prog 27 #[.slice none 0 0] w fun e w' => e = .returned (.slice none 0 0) ∧ w' = w := by
  have hq := @Lib.run_eql_slice_nil Try.prog
  go_enter Try.func27, Try.ntmps27
  go_wp2
  go_ret
  exact ⟨rfl, rfl⟩

set_option maxRecDepth 100000 in
set_option maxHeartbeats 1000000 in
theorem clone_some (p : Addr) (len cap : Nat) (ns : List Value) (w : World) (hlen : len ≤ 1048576) (hs : Src w (some p) len cap ns) (ho : ∀ u ∈ ns, u.oneCell' = true) :
    Calls Try.prog 27 #[.slice (some p) len cap] w fun e w' => ∃ v, e = .returned v ∧ w'.ownsRow w.heap.size 5 1 v len ns ∧ Below w.heap.size w w' := by
  obtain ⟨i0, hi, hz0, hz1, hz2⟩ := info_parts Try.info5
  have hq := fun wx => Lib.run_eql_slice_nil (P := Try.prog) wx 27 5 (some p) len cap 0 0 Try.underlying27
  go_enter Try.func27, Try.ntmps27
  go_wp2_with (at_builtin; refine wpList_append_src rfl (.tmp 5) (.tmp 6) 27 rfl w.heap.size 5 i0 (.int .u8 0) 1 Try.underlying27 hi hz0 hz1 hz2 rfl _ _ _ rfl (World.ownsRow_made _ _ 0 (Nat.le_refl _) (Nat.zero_le _) rfl) _ _ _ ns rfl (hs.later ((Below.refl _ w).alloc (Nat.le_refl _) _)) ho (by unfold maxLen; omega) (by omega) (by simp) ?_; intro v1 W1 hown1 hb1)
  go_ret
  exact ⟨_, rfl, by simpa using hown1, ((Below.refl _ w).alloc (Nat.le_refl _) _).trans hb1⟩

theorem clone_any (ad : Option Addr) (len cap B : Nat) (w : World) (hlen : len ≤ 1048576) (hs : Src w ad len cap (c8 (upk 8 len B))) :
    Calls Try.prog 27 #[.slice ad len cap] w fun e w' => ∃ v, e = .returned v ∧ w'.ownsRow w.heap.size 5 1 v len (c8 (upk 8 len B)) ∧ Below w.heap.size w w' := by
  rcases hs.2 with ⟨rfl, rfl, rfl⟩ | ⟨p, rfl, _⟩
  · refine (clone_nil w).mono ?_
    rintro e w' ⟨rfl, rfl⟩
    exact ⟨_, rfl, World.ownsRow_nil _ _ _ _, Below.refl _ _⟩
  · exact clone_some p len cap _ w hlen hs (c8_one _)
theorem num_src {w : World} {ad : Option Addr} {len cap B : Nat} (h : Src w ad len cap (c8 (upk 8 len B))) : NumAt w ad len B := by
  intro j hj
  have hl := h.1
  have hg : ∀ i, i < len → (c8 (upk 8 len B))[i]? = some (.int .u8 ((B / 2 ^ (8 * i) % 256 : Nat) : Int)) := by
    intro i hi
    unfold c8
    rw [List.getElem?_map, upk_get 8 len B i hi]
    rfl
  rcases h.2 with ⟨_, h1, _⟩ | ⟨p, h1, h2⟩
  · omega
  · obtain ⟨g, off, spot⟩ := p
    have hc := h2 j _ (hg j hj)
    have hc0 := h2 0 _ (hg 0 (by omega))
    have hspot : spot = none := by simpa [Addr.add] using World.cell?_spot hc0
    subst hspot
    refine ⟨g, off, h1, ?_⟩
    rw [← hc]
    unfold Addr.add
    split <;> simp_all
theorem bytesAt_num {w : World} {ad : Option Addr} {len B n₀ : Nat} (h : NumAt w ad len B) (hn : w.heap.size ≤ n₀) : BytesAt n₀ w ad len B := by
  intro j hj
  obtain ⟨g, off, e, hc⟩ := h j hj
  exact ⟨g, off, e, Nat.lt_of_lt_of_le (World.block_lt_of_cell? _ _ hc) hn, hc⟩

set_option maxRecDepth 100000 in
set_option maxHeartbeats 1000000 in
theorem bitsOf_v (ad : Option Addr) (len cap : Nat) (w : World) :
    Calls Try.prog 85 #[.slice ad len cap] w fun e w' => e = .returned (.func (.func 93) #[] #[.pointer (some ⟨w.heap.size, 0, none⟩)]) ∧ w' = w.alloc (.cells #[.slice ad len cap] 27) := by
  go_enter Try.func85, Try.ntmps85
  go_wp2
  go_ret
  exact ⟨rfl, rfl⟩

set_option maxRecDepth 100000 in
set_option maxHeartbeats 1000000 in
theorem bits_any (ad : Option Addr) (len cap B : Nat) (w : World) (hlen : len ≤ 1048576) (hs : Src w ad len cap (c8 (upk 8 len B))) :
    Calls Try.prog 58 #[.slice ad len cap] w fun e w' => ∃ (Bs cap' : Nat) (ad' : Option Addr), e = .returned (.func (.func 93) #[] #[.pointer (some ⟨Bs, 0, none⟩)]) ∧ w'.cell? ⟨Bs, 0, none⟩ = some (.slice ad' len cap') ∧ NumAt w' ad' len B ∧ Below w.heap.size w w' := by
  go_enter Try.func58, Try.ntmps58
  go_wp2_with (first | (go_at_call 27; refine (clone_any ad len cap B w hlen hs).mono ?_; rintro e w1 ⟨v, rfl, hown, hb⟩; obtain ⟨ad', cap', rfl⟩ := own_sl hown) | (go_at_call 85; refine (bitsOf_v _ _ _ _).mono ?_; rintro e w2 ⟨rfl, hw2⟩; subst hw2))
  go_ret
  have hN := num_src (src_own hown).2
  exact ⟨w1.heap.size, cap', ad', rfl, by simp, hN.later ((Below.refl _ w1).alloc (Nat.le_refl _) _), hb.trans (((Below.refl _ w1).alloc (Nat.le_refl _) _).mono hb.size)⟩
end Go.Proofs.Ytdglobonbhkheaa
