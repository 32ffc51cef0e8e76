/-
  The law's own memory: lent hands out bytes with one more behind, kept tells whether they are as they were.
-/
import Derived.Test.YtjncjfefploneaaDoorRef
namespace Go.Proofs.YtjncjfefploneaaDoor
open Go.ChangeShapes Go.WideShapes Go.ChangeAt Go.RowKit Go.Shelf

theorem Tryd.info5' : (Tryd.prog.info? 5).map (fun i => (i.zero, i.size, i.bytes)) = some (some (.int .u8 0), 1, 1) := by kernel_rfl

theorem own_cap {w : World} {B : Nat} {e : TypeId} {g n c : Nat} {xs : List Value} (h : w.ownsRow B e 1 (.slice (some ⟨g, 0, none⟩) n c) n xs) : (n : Int) ≤ (c : Int) := by
  rcases h.2 with ⟨h1, _⟩ | ⟨g', cap, cur, h1, _, _, h2, _⟩
  · cases h1
  · cases h1
    omega

set_option maxHeartbeats 1000000 in
theorem lent_any (ad : Option Addr) (len cap : Nat) (l : List Nat) (w : World) (hlen : len ≤ 1048576) (hs : Src w ad len cap (c8 l)) :
    Calls Tryd.prog 10 #[.slice ad len cap] w fun e w' => ∃ g c, e = .returned (.slice (some ⟨g, 0, none⟩) len c) ∧ w'.ownsRow w.heap.size 5 1 (.slice (some ⟨g, 0, none⟩) (len + 1) c) (len + 1) (c8 (l ++ [77])) ∧ Below w.heap.size w w' := by
  obtain ⟨i0, hi, hz0, hz1, hz2⟩ := info_parts Tryd.info5'
  go_enter Tryd.func10, Tryd.ntmps10
  go_wp2_with (first | (at_builtin; refine wpList_append_src rfl (.tmp 3) (.tmp 4) 22 rfl w.heap.size 5 i0 (.int .u8 0) 1 Tryd.underlying22 hi hz0 hz1 hz2 rfl _ _ _ rfl (World.ownsRow_made _ _ 0 (Nat.le_refl _) (Nat.zero_le _) rfl) _ _ _ (c8 l) rfl (hs.later ((Below.refl _ w).alloc (Nat.le_refl _) _)) (c8_one l) (by unfold maxLen; omega) (by omega) (by simp) ?_; intro v1 W1 hown1 hb1) | (at_builtin; refine wpList_append_src rfl (.tmp 5) (.tmp 6) 22 rfl w.heap.size 5 i0 (.int .u8 0) 1 Tryd.underlying22 hi hz0 hz1 hz2 rfl _ _ _ rfl (hown1.alloc _) _ _ _ (c8 [77]) rfl (src_new W1 [77] 5 (0, 0) 1) (c8_one _) (by unfold maxLen; omega) (by omega) (by have := hb1.size; simp at this ⊢; omega) ?_; intro v2 W2 hown2 hb2; obtain ⟨g, c, rfl⟩ := own_some hown2 (by omega); have hcap := own_cap hown2; clear hown1))
  go_ret
  refine ⟨g, c, rfl, ?_, ?_⟩
  · rw [c8_append]
    simpa using hown2
  · have h1 : Below w.heap.size w W1 := ((Below.refl _ w).alloc (Nat.le_refl _) _).trans hb1
    exact (h1.alloc h1.size _).trans hb2

theorem conv_empty (W : World) (p : Addr) (c : Nat) : Sem.run Tryd.prog (convert 22 9 (.slice (some p) 0 c)) W = .ok (.string (strOfNums [])) W := by
  have hl : (loadCells p 0).run Tryd.prog W = .ok #[] W := by
    simp [loadCells, go_sem]
  rw [run_convert_bytes_string W 22 9 5 _ 0 c Tryd.underlying22 Tryd.underlying5 Tryd.underlying9, run_bytesToString W _ 0 c [] (by simpa using hl)]
  simp [strOfNums]
  rfl
theorem str_src {w : World} {a : Option Addr} {len c : Nat} {l : List Nat} (h : Src w a len c (c8 l)) : Sem.run Tryd.prog (convert 22 9 (.slice a len c)) w = .ok (.string (strOfNums (l.map fun n : Nat => (n : Int)))) w := by
  have hll : l.length = len := by have := h.1; rwa [c8_len] at this
  rcases h.2 with ⟨rfl, rfl, rfl⟩ | ⟨p, rfl, _⟩
  · have e : l = [] := by simpa using hll
    subst e
    exact run_convert_bytes_nil w 22 5 Tryd.underlying22 Tryd.underlying5 0 0 9 Tryd.underlying9
  · rcases Nat.eq_zero_or_pos len with rfl | hl
    · have e : l = [] := by simpa using hll
      subst e
      exact conv_empty w p c
    · obtain ⟨g, off, e, _⟩ := src_at h hl
      cases e
      refine run_convert_bytes_arg w 22 5 Tryd.underlying22 Tryd.underlying5 g off len c _ (by simpa using hll) (fun i hi => ?_) 9 Tryd.underlying9
      obtain ⟨g', off', e', hc⟩ := src_at h hi
      cases e'
      rw [hc]
      have hx : i < l.length := by omega
      simp [List.getD, List.getElem?_eq_getElem hx]
theorem lent_src {w : World} {B g c len : Nat} {l : List Nat} (h : w.ownsRow B 5 1 (.slice (some ⟨g, 0, none⟩) (len + 1) c) (len + 1) (c8 (l ++ [77]))) : Src w (some ⟨g, 0, none⟩) len c (c8 l) := by
  have hl : l.length = len := by have := h.1; rw [c8_len] at this; simpa using this
  refine ⟨by rw [c8_len, hl], .inr ⟨_, rfl, fun j u hj => ?_⟩⟩
  refine World.ownsRow.cells h rfl j u ?_
  rw [c8_append, List.getElem?_append_left, hj]
  rcases Nat.lt_or_ge j (c8 l).length with hh | hh
  · exact hh
  · rw [List.getElem?_eq_none hh] at hj; cases hj
theorem lent_last {w : World} {B g c len : Nat} {l : List Nat} (h : w.ownsRow B 5 1 (.slice (some ⟨g, 0, none⟩) (len + 1) c) (len + 1) (c8 (l ++ [77]))) : w.cell? ⟨g, len, none⟩ = some (.int .u8 77) := by
  have hl : l.length = len := by have := h.1; rw [c8_len] at this; simpa using this
  rw [h.cellAt len (by omega), c8_append, List.getElem?_append_right (by rw [c8_len]; omega), c8_len, hl]
  simp [c8]

set_option maxHeartbeats 1000000 in
theorem kept_any (ad : Option Addr) (len cap g c B : Nat) (l : List Nat) (w : World) (hlen : len ≤ 1048576) (hs : Src w ad len cap (c8 l)) (hm : w.ownsRow B 5 1 (.slice (some ⟨g, 0, none⟩) (len + 1) c) (len + 1) (c8 (l ++ [77]))) :
    Calls Tryd.prog 13 #[.slice (some ⟨g, 0, none⟩) len c, .slice ad len cap] w fun e w' => e = .returned (.bool true) ∧ w' = w := by
  have s1 := str_src (lent_src hm)
  have s2 := str_src hs
  have hc := lent_last hm
  have hcap := own_cap hm
  have hlen' : (len : Int) ≤ 1048576 := by omega
  have hcap' : (len : Int) + 1 ≤ (c : Int) := by omega
  clear hm hs hcap
  go_enter Tryd.func13, Tryd.ntmps13
  go_wp2
  go_ret
  exact ⟨by simp, rfl⟩
end Go.Proofs.YtjncjfefploneaaDoor
