/-
  ofSome: a datum is of a type, whatever its Size.
-/
import Derived.Test.YtdglobonbhkheaaJ3
import Derived.Test.YtdglobonbhkheaaBox
import Derived.Deep.RegionHeld3
namespace Go.Proofs.Ytdglobonbhkheaa
set_option linter.unusedVariables false
set_option linter.unusedSimpArgs false
open Go.ChangeShapes Go.WideShapes Go.ChangeAt Go.RowKit Go.Deep

set_option maxRecDepth 100000 in
set_option maxHeartbeats 2000000 in
theorem ofSome_any (k n : Int) (s : ByteArray) (w : World) : Calls Try.prog 30 #[.agg #[.int .i64 k, .int .i64 n, .string s]] w fun e w' => e = .returned (.bool (fineB k n s.size)) ∧ Below w.heap.size w w' := by
  have hx : (w.alloc (.cells #[.int .i64 k, .int .i64 n, .string s] 48)).heap[w.heap.size]? = some (.cells #[.int .i64 k, .int .i64 n, .string s] 48 (0, 0)) := heap_new w _
  have hb0 : Below w.heap.size w (w.alloc (.cells #[.int .i64 k, .int .i64 n, .string s] 48)) := alloc_below w _
  go_enter Try.func30, Try.ntmps30
  go_wp2_with fail
  generalize w.alloc (.cells #[.int .i64 k, .int .i64 n, .string s] 48) = W0 at *
  rename_i Qx Kx ax
  have key : ∀ (s5 s6 s9 s10 : Value) (X : World) (g : Nat), X.heap[w.heap.size]? = some (.cells #[.int .i64 k, .int .i64 n, .string s] 48 (0, 0)) → X.heap[g]? = some (.cells #[.int .i64 (bo k 0), .int .i64 (bo k 1), .int .i64 (bo k 2), .int .i64 (bo k 3), .int .i64 (bo k 4), .int .i64 (bo k 5)] 79 (0, 0)) → Below w.heap.size w X →
      Exit.then Kx Qx .normal { tmps := #[.agg #[.int .i64 k, .int .i64 n, .string s], .pointer (some ⟨w.heap.size, 0, none⟩), .bool false, .pointer (some ⟨g, 0, none⟩), .bool (kn k), s5, s6, .pointer (some ⟨w.heap.size, 0, none⟩), .int .i64 k, s9, s10, .bool (kn k), undef, undef, undef, undef, undef, undef], defers := [] } X := by
    intro s5 s6 s9 s10 X g hxX hg hb
    clear hx
    clear hb0
    obtain ⟨⟨c0, c1, c2⟩, _⟩ := blk3 hxX
    obtain ⟨⟨d0, d1, d2, d3, d4, d5⟩, _⟩ := blk6 hg
    have HO := hold_any (bo k 0) (bo k 1) (bo k 2) (bo k 3) (bo k 4) (bo k 5) k n s X
    have HF : Hid (fineB k n s.size = (kn k && (inB (bo k 2) (bo k 3) n && inB (bo k 4) (bo k 5) (s.size : Int)))) := rfl
    generalize (inB (bo k 2) (bo k 3) n && inB (bo k 4) (bo k 5) (s.size : Int)) = u at *
    generalize bo k 0 = e0 at *
    generalize bo k 1 = e1 at *
    generalize bo k 2 = e2 at *
    generalize bo k 3 = e3 at *
    generalize bo k 4 = e4 at *
    generalize bo k 5 = e5 at *
    generalize kn k = t at *
    cases t
    · go_wp2_with fail
      go_ret
      exact ⟨by rw [HF.out]; rfl, hb⟩
    · go_wp2_with fail
      refine HO.mono ?_
      rintro e X2 ⟨rfl, hb2⟩
      go_wp2_with fail
      go_ret
      exact ⟨by rw [HF.out]; rfl, hb.trans (hb2.mono hb.size)⟩
  have hxD : W0.drew.heap[w.heap.size]? = _ := hx
  have hbD : Below w.heap.size w W0.drew := hb0.drew
  have hltD : w.heap.size < W0.drew.heap.size := lt_of_heap hx
  have cD : W0.drew.cell? ⟨w.heap.size, 0, none⟩ = some (.int .i64 k) := cell_of_block hxD rfl
  refine wp_region_held_drew (S := fun W => W.cell? ⟨w.heap.size, 0, none⟩ = some (.int .i64 k)) (by kernel_rfl) cD (fun hHeld => ?_)
  clear hHeld hx hb0
  generalize W0.drew = D at *
  refine wpAnyH_take (i := 1) (v := ?_) rfl (by kernel_rfl) (by kernel_rfl) (by kernel_rfl) (fun _ _ _ h => h) (Or.inl ⟨by rfl, ?_⟩) (by assumption) ?_
  rotate_left
  · intro w hSw
    (try dsimp only at hSw)
    (try (obtain ⟨_, _, _, _, _, _, _⟩ := hSw))
    (try (obtain ⟨_, _⟩ := hSw))
    go_simp
    (try with_reducible rfl)
  (try simp only [Act.put, List.setIfInBounds_toArray, List.set_cons_zero, List.set_cons_succ])
  refine wpAnyH_take (i := 2) (v := ?_) rfl (by kernel_rfl) (by kernel_rfl) (by kernel_rfl) (fun _ _ _ h => h) (Or.inl ⟨by rfl, ?_⟩) (by assumption) ?_
  rotate_left
  · intro w hSw
    (try dsimp only at hSw)
    (try (obtain ⟨_, _, _, _, _, _, _⟩ := hSw))
    (try (obtain ⟨_, _⟩ := hSw))
    go_simp
    (try with_reducible rfl)
  (try simp only [Act.put, List.setIfInBounds_toArray, List.set_cons_zero, List.set_cons_succ])
  refine wpAnyH_ready (rs := [0, 7]) (by kernel_rfl) (by simp) ?_
  refine AllReadyH.cons rfl (fun K hK => ?_) (AllReadyH.cons rfl (fun K hK => ?_) AllReadyH.nil)
  · go_simp
    refine (kinds_any _).mono ?_
    rintro e W1 ⟨rfl, hm1, hb1⟩
    have hx1 := below_at hb1 hxD
    have bb1 := hbD.trans (hb1.mono hbD.size)
    have hz1 := hb1.size
    have hl1 := kinds_look hm1 k
    unfold bv at hl1
    go_simp
    refine hK.out _ _ (cell_of_block hx1 rfl) (fun _ => ?_)
    clear hK K
    (try simp only [Act.put, List.setIfInBounds_toArray, List.set_cons_zero, List.set_cons_succ])
    refine wpAnyH_ready (rs := [3, 7]) (by kernel_rfl) (by simp) ?_
    refine AllReadyH.cons rfl (fun K hK => ?_) (AllReadyH.cons rfl (fun K hK => ?_) AllReadyH.nil)
    · go_simp
      refine hK.out _ _ (cell_of_block hx1 rfl) (fun _ => ?_)
      clear hK K
      (try simp only [Act.put, List.setIfInBounds_toArray, List.set_cons_zero, List.set_cons_succ])
      refine wpAnyH_take (i := 4) (v := ?_) rfl (by kernel_rfl) (by kernel_rfl) (by kernel_rfl) (fun _ _ _ h => h) (Or.inl ⟨by rfl, ?_⟩) (by assumption) ?_
      rotate_left
      · intro w hSw
        (try dsimp only at hSw)
        (try (obtain ⟨_, _, _, _, _, _, _⟩ := hSw))
        (try (obtain ⟨_, _⟩ := hSw))
        go_simp
        (try with_reducible rfl)
      (try simp only [Act.put, List.setIfInBounds_toArray, List.set_cons_zero, List.set_cons_succ])
      refine wpAnyH_take (i := 5) (v := ?_) rfl (by kernel_rfl) (by kernel_rfl) (by kernel_rfl) (fun _ _ _ h => h) (Or.inl ⟨by rfl, ?_⟩) (by assumption) ?_
      rotate_left
      · intro w hSw
        (try dsimp only at hSw)
        (try (obtain ⟨_, _, _, _, _, _, _⟩ := hSw))
        (try (obtain ⟨_, _⟩ := hSw))
        go_simp
        (try with_reducible rfl)
      (try simp only [Act.put, List.setIfInBounds_toArray, List.set_cons_zero, List.set_cons_succ])
      refine wpAnyH_take (i := 6) (v := ?_) rfl (by kernel_rfl) (by kernel_rfl) (by kernel_rfl) (fun _ _ _ h => h) (Or.inl ⟨by rfl, ?_⟩) (by assumption) ?_
      rotate_left
      · intro w hSw
        (try dsimp only at hSw)
        (try (obtain ⟨_, _, _, _, _, _, _⟩ := hSw))
        (try (obtain ⟨_, _⟩ := hSw))
        go_simp
        (try with_reducible rfl)
      (try simp only [Act.put, List.setIfInBounds_toArray, List.set_cons_zero, List.set_cons_succ])
      have hxa := below_at (alloc_below W1 (.cells #[.int .i64 0, .int .i64 0, .int .i64 0, .int .i64 0, .int .i64 0, .int .i64 0] 79)) hx1
      have hga : (W1.alloc (.cells #[.int .i64 0, .int .i64 0, .int .i64 0, .int .i64 0, .int .i64 0, .int .i64 0] 79)).heap[W1.heap.size]? = _ := heap_new W1 (.cells #[.int .i64 0, .int .i64 0, .int .i64 0, .int .i64 0, .int .i64 0, .int .i64 0] 79)
      have bba := bb1.trans ((alloc_below W1 (.cells #[.int .i64 0, .int .i64 0, .int .i64 0, .int .i64 0, .int .i64 0, .int .i64 0] 79)).mono bb1.size)
      refine wpAnyH_ready (rs := [7]) (by kernel_rfl) (by simp) ?_
      refine AllReadyH.cons rfl (fun K hK => ?_) AllReadyH.nil
      go_simp
      refine hK.out _ _ (cell_of_block hxa rfl) (fun _ => ?_)
      clear hK K
      (try simp only [Act.put, List.setIfInBounds_toArray, List.set_cons_zero, List.set_cons_succ])
      generalize W1.alloc (.cells #[.int .i64 0, .int .i64 0, .int .i64 0, .int .i64 0, .int .i64 0, .int .i64 0] 79) = Xa at *
      obtain ⟨⟨q0, q1, q2, q3, q4, q5⟩, f0, f1, f2, f3, f4, f5⟩ := blk6 hga
      refine wpAnyH_ready (rs := [8]) (by kernel_rfl) (by simp) ?_
      refine AllReadyH.cons rfl (fun K hK => ?_) AllReadyH.nil
      go_simp
      obtain ⟨sx, sb⟩ := store6 hga (.int .i64 (bo k 0)) (.int .i64 (bo k 1)) (.int .i64 (bo k 2)) (.int .i64 (bo k 3)) (.int .i64 (bo k 4)) (.int .i64 (bo k 5))
      have hxz := sb.at hxa (by omega)
      have hbz := bba.trans (sb.below (by omega))
      refine hK.out _ _ (cell_of_block hxz rfl) (fun _ => ?_)
      clear hK K
      (try simp only [Act.put, List.setIfInBounds_toArray, List.set_cons_zero, List.set_cons_succ])
      refine wpAnyH_take (i := 9) (v := ?_) rfl (by kernel_rfl) (by kernel_rfl) (by kernel_rfl) (fun _ _ _ h => h) (Or.inl ⟨by rfl, ?_⟩) (by assumption) ?_
      rotate_left
      · intro w hSw
        (try dsimp only at hSw)
        (try (obtain ⟨_, _, _, _, _, _, _⟩ := hSw))
        (try (obtain ⟨_, _⟩ := hSw))
        go_simp
        (try with_reducible rfl)
      (try simp only [Act.put, List.setIfInBounds_toArray, List.set_cons_zero, List.set_cons_succ])
      refine wpAnyH_done (by kernel_rfl) ?_ _
      exact key _ _ _ _ _ _ hxz sx hbz
    · have hma : (W1.alloc (.cells #[.int .i64 0, .int .i64 0, .int .i64 0, .int .i64 0, .int .i64 0, .int .i64 0] 79)).heap[D.heap.size]? = _ := below_at (alloc_below W1 (.cells #[.int .i64 0, .int .i64 0, .int .i64 0, .int .i64 0, .int .i64 0, .int .i64 0] 79)) hm1
      have hla := kinds_look hma k
      unfold bv at hla
      have hxa := below_at (alloc_below W1 (.cells #[.int .i64 0, .int .i64 0, .int .i64 0, .int .i64 0, .int .i64 0, .int .i64 0] 79)) hx1
      have hga : (W1.alloc (.cells #[.int .i64 0, .int .i64 0, .int .i64 0, .int .i64 0, .int .i64 0, .int .i64 0] 79)).heap[W1.heap.size]? = _ := heap_new W1 (.cells #[.int .i64 0, .int .i64 0, .int .i64 0, .int .i64 0, .int .i64 0, .int .i64 0] 79)
      have bba := bb1.trans ((alloc_below W1 (.cells #[.int .i64 0, .int .i64 0, .int .i64 0, .int .i64 0, .int .i64 0, .int .i64 0] 79)).mono bb1.size)
      go_simp
      refine hK.out _ _ (cell_of_block hxa rfl) (fun _ => ?_)
      clear hK K
      (try simp only [Act.put, List.setIfInBounds_toArray, List.set_cons_zero, List.set_cons_succ])
      generalize W1.alloc (.cells #[.int .i64 0, .int .i64 0, .int .i64 0, .int .i64 0, .int .i64 0, .int .i64 0] 79) = Xa at *
      obtain ⟨⟨q0, q1, q2, q3, q4, q5⟩, f0, f1, f2, f3, f4, f5⟩ := blk6 hga
      refine wpAnyH_ready (rs := [3]) (by kernel_rfl) (by simp) ?_
      refine AllReadyH.cons rfl (fun K hK => ?_) AllReadyH.nil
      go_simp
      refine hK.out _ _ (cell_of_block hxa rfl) (fun _ => ?_)
      clear hK K
      (try simp only [Act.put, List.setIfInBounds_toArray, List.set_cons_zero, List.set_cons_succ])
      refine wpAnyH_take (i := 4) (v := ?_) rfl (by kernel_rfl) (by kernel_rfl) (by kernel_rfl) (fun _ _ _ h => h) (Or.inl ⟨by rfl, ?_⟩) (by assumption) ?_
      rotate_left
      · intro w hSw
        (try dsimp only at hSw)
        (try (obtain ⟨_, _, _, _, _, _, _⟩ := hSw))
        (try (obtain ⟨_, _⟩ := hSw))
        go_simp
        (try with_reducible rfl)
      (try simp only [Act.put, List.setIfInBounds_toArray, List.set_cons_zero, List.set_cons_succ])
      refine wpAnyH_take (i := 5) (v := ?_) rfl (by kernel_rfl) (by kernel_rfl) (by kernel_rfl) (fun _ _ _ h => h) (Or.inl ⟨by rfl, ?_⟩) (by assumption) ?_
      rotate_left
      · intro w hSw
        (try dsimp only at hSw)
        (try (obtain ⟨_, _, _, _, _, _, _⟩ := hSw))
        (try (obtain ⟨_, _⟩ := hSw))
        go_simp
        (try with_reducible rfl)
      (try simp only [Act.put, List.setIfInBounds_toArray, List.set_cons_zero, List.set_cons_succ])
      refine wpAnyH_take (i := 6) (v := ?_) rfl (by kernel_rfl) (by kernel_rfl) (by kernel_rfl) (fun _ _ _ h => h) (Or.inl ⟨by rfl, ?_⟩) (by assumption) ?_
      rotate_left
      · intro w hSw
        (try dsimp only at hSw)
        (try (obtain ⟨_, _, _, _, _, _, _⟩ := hSw))
        (try (obtain ⟨_, _⟩ := hSw))
        go_simp
        (try with_reducible rfl)
      (try simp only [Act.put, List.setIfInBounds_toArray, List.set_cons_zero, List.set_cons_succ])
      refine wpAnyH_ready (rs := [8]) (by kernel_rfl) (by simp) ?_
      refine AllReadyH.cons rfl (fun K hK => ?_) AllReadyH.nil
      go_simp
      obtain ⟨sx, sb⟩ := store6 hga (.int .i64 (bo k 0)) (.int .i64 (bo k 1)) (.int .i64 (bo k 2)) (.int .i64 (bo k 3)) (.int .i64 (bo k 4)) (.int .i64 (bo k 5))
      have hxz := sb.at hxa (by omega)
      have hbz := bba.trans (sb.below (by omega))
      refine hK.out _ _ (cell_of_block hxz rfl) (fun _ => ?_)
      clear hK K
      (try simp only [Act.put, List.setIfInBounds_toArray, List.set_cons_zero, List.set_cons_succ])
      refine wpAnyH_take (i := 9) (v := ?_) rfl (by kernel_rfl) (by kernel_rfl) (by kernel_rfl) (fun _ _ _ h => h) (Or.inl ⟨by rfl, ?_⟩) (by assumption) ?_
      rotate_left
      · intro w hSw
        (try dsimp only at hSw)
        (try (obtain ⟨_, _, _, _, _, _, _⟩ := hSw))
        (try (obtain ⟨_, _⟩ := hSw))
        go_simp
        (try with_reducible rfl)
      (try simp only [Act.put, List.setIfInBounds_toArray, List.set_cons_zero, List.set_cons_succ])
      refine wpAnyH_done (by kernel_rfl) ?_ _
      exact key _ _ _ _ _ _ hxz sx hbz
  · have hxa := below_at (alloc_below D (.cells #[.int .i64 0, .int .i64 0, .int .i64 0, .int .i64 0, .int .i64 0, .int .i64 0] 79)) hxD
    have hga : (D.alloc (.cells #[.int .i64 0, .int .i64 0, .int .i64 0, .int .i64 0, .int .i64 0, .int .i64 0] 79)).heap[D.heap.size]? = _ := heap_new D (.cells #[.int .i64 0, .int .i64 0, .int .i64 0, .int .i64 0, .int .i64 0, .int .i64 0] 79)
    have bba := hbD.trans ((alloc_below D (.cells #[.int .i64 0, .int .i64 0, .int .i64 0, .int .i64 0, .int .i64 0, .int .i64 0] 79)).mono hbD.size)
    go_simp
    refine hK.out _ _ (cell_of_block hxa rfl) (fun _ => ?_)
    clear hK K
    (try simp only [Act.put, List.setIfInBounds_toArray, List.set_cons_zero, List.set_cons_succ])
    have hzz : D.heap.size < (D.alloc (.cells #[.int .i64 0, .int .i64 0, .int .i64 0, .int .i64 0, .int .i64 0, .int .i64 0] 79)).heap.size := lt_of_heap hga
    refine wpAnyH_ready (rs := [0]) (by kernel_rfl) (by simp) ?_
    refine AllReadyH.cons rfl (fun K hK => ?_) AllReadyH.nil
    go_simp
    refine (kinds_any _).mono ?_
    rintro e W1 ⟨rfl, hm1, hb1⟩
    have hx1 := below_at hb1 hxa
    have hg1 := below_at hb1 hga
    have bb1 := bba.trans (hb1.mono bba.size)
    have hz1 := hb1.size
    rw [show (D.alloc (.cells #[.int .i64 0, .int .i64 0, .int .i64 0, .int .i64 0, .int .i64 0, .int .i64 0] 79)).heap.size = D.heap.size + 1 by simp] at hm1
    have hl1 := kinds_look hm1 k
    unfold bv at hl1
    obtain ⟨⟨q0, q1, q2, q3, q4, q5⟩, f0, f1, f2, f3, f4, f5⟩ := blk6 hg1
    go_simp
    refine hK.out _ _ (cell_of_block hx1 rfl) (fun _ => ?_)
    clear hK K
    (try simp only [Act.put, List.setIfInBounds_toArray, List.set_cons_zero, List.set_cons_succ])
    refine wpAnyH_ready (rs := [3]) (by kernel_rfl) (by simp) ?_
    refine AllReadyH.cons rfl (fun K hK => ?_) AllReadyH.nil
    go_simp
    refine hK.out _ _ (cell_of_block hx1 rfl) (fun _ => ?_)
    clear hK K
    (try simp only [Act.put, List.setIfInBounds_toArray, List.set_cons_zero, List.set_cons_succ])
    refine wpAnyH_take (i := 4) (v := ?_) rfl (by kernel_rfl) (by kernel_rfl) (by kernel_rfl) (fun _ _ _ h => h) (Or.inl ⟨by rfl, ?_⟩) (by assumption) ?_
    rotate_left
    · intro w hSw
      (try dsimp only at hSw)
      (try (obtain ⟨_, _, _, _, _, _, _⟩ := hSw))
      (try (obtain ⟨_, _⟩ := hSw))
      go_simp
      (try with_reducible rfl)
    (try simp only [Act.put, List.setIfInBounds_toArray, List.set_cons_zero, List.set_cons_succ])
    refine wpAnyH_take (i := 5) (v := ?_) rfl (by kernel_rfl) (by kernel_rfl) (by kernel_rfl) (fun _ _ _ h => h) (Or.inl ⟨by rfl, ?_⟩) (by assumption) ?_
    rotate_left
    · intro w hSw
      (try dsimp only at hSw)
      (try (obtain ⟨_, _, _, _, _, _, _⟩ := hSw))
      (try (obtain ⟨_, _⟩ := hSw))
      go_simp
      (try with_reducible rfl)
    (try simp only [Act.put, List.setIfInBounds_toArray, List.set_cons_zero, List.set_cons_succ])
    refine wpAnyH_take (i := 6) (v := ?_) rfl (by kernel_rfl) (by kernel_rfl) (by kernel_rfl) (fun _ _ _ h => h) (Or.inl ⟨by rfl, ?_⟩) (by assumption) ?_
    rotate_left
    · intro w hSw
      (try dsimp only at hSw)
      (try (obtain ⟨_, _, _, _, _, _, _⟩ := hSw))
      (try (obtain ⟨_, _⟩ := hSw))
      go_simp
      (try with_reducible rfl)
    (try simp only [Act.put, List.setIfInBounds_toArray, List.set_cons_zero, List.set_cons_succ])
    refine wpAnyH_ready (rs := [8]) (by kernel_rfl) (by simp) ?_
    refine AllReadyH.cons rfl (fun K hK => ?_) AllReadyH.nil
    go_simp
    obtain ⟨sx, sb⟩ := store6 hg1 (.int .i64 (bo k 0)) (.int .i64 (bo k 1)) (.int .i64 (bo k 2)) (.int .i64 (bo k 3)) (.int .i64 (bo k 4)) (.int .i64 (bo k 5))
    have hxz := sb.at hx1 (by omega)
    have hbz := bb1.trans (sb.below (by omega))
    refine hK.out _ _ (cell_of_block hxz rfl) (fun _ => ?_)
    clear hK K
    (try simp only [Act.put, List.setIfInBounds_toArray, List.set_cons_zero, List.set_cons_succ])
    refine wpAnyH_take (i := 9) (v := ?_) rfl (by kernel_rfl) (by kernel_rfl) (by kernel_rfl) (fun _ _ _ h => h) (Or.inl ⟨by rfl, ?_⟩) (by assumption) ?_
    rotate_left
    · intro w hSw
      (try dsimp only at hSw)
      (try (obtain ⟨_, _, _, _, _, _, _⟩ := hSw))
      (try (obtain ⟨_, _⟩ := hSw))
      go_simp
      (try with_reducible rfl)
    (try simp only [Act.put, List.setIfInBounds_toArray, List.set_cons_zero, List.set_cons_succ])
    refine wpAnyH_done (by kernel_rfl) ?_ _
    exact key _ _ _ _ _ _ hxz sx hbz
end Go.Proofs.Ytdglobonbhkheaa

/-
  Check, the reference's Check and Fine, and both Of.
-/
namespace Go.Proofs.Ytdglobonbhkheaa
set_option linter.unusedVariables false
set_option linter.unusedSimpArgs false
open Go.ChangeShapes Go.WideShapes Go.ChangeAt Go.RowKit Go.Deep

set_option maxRecDepth 100000 in
set_option maxHeartbeats 2000000 in
theorem check_any (k z : Int) (w : World) : Calls Try.prog 20 #[.agg #[.int .i64 k, .int .i64 z]] w fun e w' => e = .returned (.int .i64 (chkN k z)) ∧ Below w.heap.size w w' := by
  have hx : (w.alloc (.cells #[.int .i64 k, .int .i64 z] 24)).heap[w.heap.size]? = some (.cells #[.int .i64 k, .int .i64 z] 24 (0, 0)) := heap_new w _
  have hb0 : Below w.heap.size w (w.alloc (.cells #[.int .i64 k, .int .i64 z] 24)) := alloc_below w _
  go_enter Try.func20, Try.ntmps20
  go_wp2_with fail
  generalize w.alloc (.cells #[.int .i64 k, .int .i64 z] 24) = W0 at *
  rename_i Qx K1 a1 Kx ax
  have key : ∀ (s5 s6 s9 s10 : Value) (X : World) (g : Nat), X.heap[w.heap.size]? = some (.cells #[.int .i64 k, .int .i64 z] 24 (0, 0)) → X.heap[g]? = some (.cells #[.int .i64 (bo k 0), .int .i64 (bo k 1), .int .i64 (bo k 2), .int .i64 (bo k 3), .int .i64 (bo k 4), .int .i64 (bo k 5)] 79 (0, 0)) → Below w.heap.size w X →
      Exit.then Kx (Exit.then K1 Qx) .normal { tmps := #[.agg #[.int .i64 k, .int .i64 z], .pointer (some ⟨w.heap.size, 0, none⟩), .int .i64 0, .pointer (some ⟨g, 0, none⟩), .bool (kn k), s5, s6, .pointer (some ⟨w.heap.size, 0, none⟩), .int .i64 k, s9, s10, .bool (kn k), undef, undef, undef, undef, undef, undef, undef, undef, undef, undef], defers := [] } X := by
    intro s5 s6 s9 s10 X g hxX hg hb
    clear hx hb0
    obtain ⟨⟨c0, c1⟩, _⟩ := blk2 hxX
    obtain ⟨⟨d0, d1, d2, d3, d4, d5⟩, _⟩ := blk6 hg
    have HO := has_any (bo k 0) (bo k 1) z X
    have HF : Hid (chkN k z = if (kn k && inB (bo k 0) (bo k 1) z) = true then 0 else 2) := rfl
    generalize inB (bo k 0) (bo k 1) z = u at *
    generalize bo k 0 = e0 at *
    generalize bo k 1 = e1 at *
    generalize bo k 2 = e2 at *
    generalize bo k 3 = e3 at *
    generalize bo k 4 = e4 at *
    generalize bo k 5 = e5 at *
    generalize kn k = t at *
    cases t
    · go_wp2_with fail
      go_ret
      exact ⟨by rw [HF.out]; rfl, hb⟩
    · cases u
      · go_wp2_with fail
        refine HO.mono ?_
        rintro e X2 ⟨rfl, hb2⟩
        go_wp2_with fail
        go_ret
        exact ⟨by rw [HF.out]; rfl, hb.trans (hb2.mono hb.size)⟩
      · go_wp2_with fail
        refine HO.mono ?_
        rintro e X2 ⟨rfl, hb2⟩
        go_wp2_with fail
        go_ret
        exact ⟨by rw [HF.out]; rfl, hb.trans (hb2.mono hb.size)⟩
  have hxD : W0.drew.heap[w.heap.size]? = _ := hx
  have hbD : Below w.heap.size w W0.drew := hb0.drew
  have hltD : w.heap.size < W0.drew.heap.size := lt_of_heap hx
  have cD : W0.drew.cell? ⟨w.heap.size, 0, none⟩ = some (.int .i64 k) := cell_of_block hxD rfl
  refine wp_region_held_drew (S := fun W => W.cell? ⟨w.heap.size, 0, none⟩ = some (.int .i64 k)) (by kernel_rfl) cD (fun hHeld => ?_)
  clear hHeld hx hb0
  generalize W0.drew = D at *
  refine wpAnyH_take (i := 1) (v := ?_) rfl (by kernel_rfl) (by kernel_rfl) (by kernel_rfl) (fun _ _ _ h => h) (Or.inl ⟨by rfl, ?_⟩) (by assumption) ?_
  rotate_left
  · intro w hSw
    (try dsimp only at hSw)
    (try (obtain ⟨_, _, _, _, _, _, _⟩ := hSw))
    (try (obtain ⟨_, _⟩ := hSw))
    go_simp
    (try with_reducible rfl)
  (try simp only [Act.put, List.setIfInBounds_toArray, List.set_cons_zero, List.set_cons_succ])
  refine wpAnyH_take (i := 2) (v := ?_) rfl (by kernel_rfl) (by kernel_rfl) (by kernel_rfl) (fun _ _ _ h => h) (Or.inl ⟨by rfl, ?_⟩) (by assumption) ?_
  rotate_left
  · intro w hSw
    (try dsimp only at hSw)
    (try (obtain ⟨_, _, _, _, _, _, _⟩ := hSw))
    (try (obtain ⟨_, _⟩ := hSw))
    go_simp
    (try with_reducible rfl)
  (try simp only [Act.put, List.setIfInBounds_toArray, List.set_cons_zero, List.set_cons_succ])
  refine wpAnyH_ready (rs := [0, 7]) (by kernel_rfl) (by simp) ?_
  refine AllReadyH.cons rfl (fun K hK => ?_) (AllReadyH.cons rfl (fun K hK => ?_) AllReadyH.nil)
  · go_simp
    refine (kinds_any _).mono ?_
    rintro e W1 ⟨rfl, hm1, hb1⟩
    have hx1 := below_at hb1 hxD
    have bb1 := hbD.trans (hb1.mono hbD.size)
    have hz1 := hb1.size
    have hl1 := kinds_look hm1 k
    unfold bv at hl1
    go_simp
    refine hK.out _ _ (cell_of_block hx1 rfl) (fun _ => ?_)
    clear hK K
    (try simp only [Act.put, List.setIfInBounds_toArray, List.set_cons_zero, List.set_cons_succ])
    refine wpAnyH_ready (rs := [3, 7]) (by kernel_rfl) (by simp) ?_
    refine AllReadyH.cons rfl (fun K hK => ?_) (AllReadyH.cons rfl (fun K hK => ?_) AllReadyH.nil)
    · go_simp
      refine hK.out _ _ (cell_of_block hx1 rfl) (fun _ => ?_)
      clear hK K
      (try simp only [Act.put, List.setIfInBounds_toArray, List.set_cons_zero, List.set_cons_succ])
      refine wpAnyH_take (i := 4) (v := ?_) rfl (by kernel_rfl) (by kernel_rfl) (by kernel_rfl) (fun _ _ _ h => h) (Or.inl ⟨by rfl, ?_⟩) (by assumption) ?_
      rotate_left
      · intro w hSw
        (try dsimp only at hSw)
        (try (obtain ⟨_, _, _, _, _, _, _⟩ := hSw))
        (try (obtain ⟨_, _⟩ := hSw))
        go_simp
        (try with_reducible rfl)
      (try simp only [Act.put, List.setIfInBounds_toArray, List.set_cons_zero, List.set_cons_succ])
      refine wpAnyH_take (i := 5) (v := ?_) rfl (by kernel_rfl) (by kernel_rfl) (by kernel_rfl) (fun _ _ _ h => h) (Or.inl ⟨by rfl, ?_⟩) (by assumption) ?_
      rotate_left
      · intro w hSw
        (try dsimp only at hSw)
        (try (obtain ⟨_, _, _, _, _, _, _⟩ := hSw))
        (try (obtain ⟨_, _⟩ := hSw))
        go_simp
        (try with_reducible rfl)
      (try simp only [Act.put, List.setIfInBounds_toArray, List.set_cons_zero, List.set_cons_succ])
      refine wpAnyH_take (i := 6) (v := ?_) rfl (by kernel_rfl) (by kernel_rfl) (by kernel_rfl) (fun _ _ _ h => h) (Or.inl ⟨by rfl, ?_⟩) (by assumption) ?_
      rotate_left
      · intro w hSw
        (try dsimp only at hSw)
        (try (obtain ⟨_, _, _, _, _, _, _⟩ := hSw))
        (try (obtain ⟨_, _⟩ := hSw))
        go_simp
        (try with_reducible rfl)
      (try simp only [Act.put, List.setIfInBounds_toArray, List.set_cons_zero, List.set_cons_succ])
      have hxa := below_at (alloc_below W1 (.cells #[.int .i64 0, .int .i64 0, .int .i64 0, .int .i64 0, .int .i64 0, .int .i64 0] 79)) hx1
      have hga : (W1.alloc (.cells #[.int .i64 0, .int .i64 0, .int .i64 0, .int .i64 0, .int .i64 0, .int .i64 0] 79)).heap[W1.heap.size]? = _ := heap_new W1 (.cells #[.int .i64 0, .int .i64 0, .int .i64 0, .int .i64 0, .int .i64 0, .int .i64 0] 79)
      have bba := bb1.trans ((alloc_below W1 (.cells #[.int .i64 0, .int .i64 0, .int .i64 0, .int .i64 0, .int .i64 0, .int .i64 0] 79)).mono bb1.size)
      refine wpAnyH_ready (rs := [7]) (by kernel_rfl) (by simp) ?_
      refine AllReadyH.cons rfl (fun K hK => ?_) AllReadyH.nil
      go_simp
      refine hK.out _ _ (cell_of_block hxa rfl) (fun _ => ?_)
      clear hK K
      (try simp only [Act.put, List.setIfInBounds_toArray, List.set_cons_zero, List.set_cons_succ])
      generalize W1.alloc (.cells #[.int .i64 0, .int .i64 0, .int .i64 0, .int .i64 0, .int .i64 0, .int .i64 0] 79) = Xa at *
      obtain ⟨⟨q0, q1, q2, q3, q4, q5⟩, f0, f1, f2, f3, f4, f5⟩ := blk6 hga
      refine wpAnyH_ready (rs := [8]) (by kernel_rfl) (by simp) ?_
      refine AllReadyH.cons rfl (fun K hK => ?_) AllReadyH.nil
      go_simp
      obtain ⟨sx, sb⟩ := store6 hga (.int .i64 (bo k 0)) (.int .i64 (bo k 1)) (.int .i64 (bo k 2)) (.int .i64 (bo k 3)) (.int .i64 (bo k 4)) (.int .i64 (bo k 5))
      have hxz := sb.at hxa (by omega)
      have hbz := bba.trans (sb.below (by omega))
      refine hK.out _ _ (cell_of_block hxz rfl) (fun _ => ?_)
      clear hK K
      (try simp only [Act.put, List.setIfInBounds_toArray, List.set_cons_zero, List.set_cons_succ])
      refine wpAnyH_take (i := 9) (v := ?_) rfl (by kernel_rfl) (by kernel_rfl) (by kernel_rfl) (fun _ _ _ h => h) (Or.inl ⟨by rfl, ?_⟩) (by assumption) ?_
      rotate_left
      · intro w hSw
        (try dsimp only at hSw)
        (try (obtain ⟨_, _, _, _, _, _, _⟩ := hSw))
        (try (obtain ⟨_, _⟩ := hSw))
        go_simp
        (try with_reducible rfl)
      (try simp only [Act.put, List.setIfInBounds_toArray, List.set_cons_zero, List.set_cons_succ])
      refine wpAnyH_done (by kernel_rfl) ?_ _
      exact key _ _ _ _ _ _ hxz sx hbz
    · have hma : (W1.alloc (.cells #[.int .i64 0, .int .i64 0, .int .i64 0, .int .i64 0, .int .i64 0, .int .i64 0] 79)).heap[D.heap.size]? = _ := below_at (alloc_below W1 (.cells #[.int .i64 0, .int .i64 0, .int .i64 0, .int .i64 0, .int .i64 0, .int .i64 0] 79)) hm1
      have hla := kinds_look hma k
      unfold bv at hla
      have hxa := below_at (alloc_below W1 (.cells #[.int .i64 0, .int .i64 0, .int .i64 0, .int .i64 0, .int .i64 0, .int .i64 0] 79)) hx1
      have hga : (W1.alloc (.cells #[.int .i64 0, .int .i64 0, .int .i64 0, .int .i64 0, .int .i64 0, .int .i64 0] 79)).heap[W1.heap.size]? = _ := heap_new W1 (.cells #[.int .i64 0, .int .i64 0, .int .i64 0, .int .i64 0, .int .i64 0, .int .i64 0] 79)
      have bba := bb1.trans ((alloc_below W1 (.cells #[.int .i64 0, .int .i64 0, .int .i64 0, .int .i64 0, .int .i64 0, .int .i64 0] 79)).mono bb1.size)
      go_simp
      refine hK.out _ _ (cell_of_block hxa rfl) (fun _ => ?_)
      clear hK K
      (try simp only [Act.put, List.setIfInBounds_toArray, List.set_cons_zero, List.set_cons_succ])
      generalize W1.alloc (.cells #[.int .i64 0, .int .i64 0, .int .i64 0, .int .i64 0, .int .i64 0, .int .i64 0] 79) = Xa at *
      obtain ⟨⟨q0, q1, q2, q3, q4, q5⟩, f0, f1, f2, f3, f4, f5⟩ := blk6 hga
      refine wpAnyH_ready (rs := [3]) (by kernel_rfl) (by simp) ?_
      refine AllReadyH.cons rfl (fun K hK => ?_) AllReadyH.nil
      go_simp
      refine hK.out _ _ (cell_of_block hxa rfl) (fun _ => ?_)
      clear hK K
      (try simp only [Act.put, List.setIfInBounds_toArray, List.set_cons_zero, List.set_cons_succ])
      refine wpAnyH_take (i := 4) (v := ?_) rfl (by kernel_rfl) (by kernel_rfl) (by kernel_rfl) (fun _ _ _ h => h) (Or.inl ⟨by rfl, ?_⟩) (by assumption) ?_
      rotate_left
      · intro w hSw
        (try dsimp only at hSw)
        (try (obtain ⟨_, _, _, _, _, _, _⟩ := hSw))
        (try (obtain ⟨_, _⟩ := hSw))
        go_simp
        (try with_reducible rfl)
      (try simp only [Act.put, List.setIfInBounds_toArray, List.set_cons_zero, List.set_cons_succ])
      refine wpAnyH_take (i := 5) (v := ?_) rfl (by kernel_rfl) (by kernel_rfl) (by kernel_rfl) (fun _ _ _ h => h) (Or.inl ⟨by rfl, ?_⟩) (by assumption) ?_
      rotate_left
      · intro w hSw
        (try dsimp only at hSw)
        (try (obtain ⟨_, _, _, _, _, _, _⟩ := hSw))
        (try (obtain ⟨_, _⟩ := hSw))
        go_simp
        (try with_reducible rfl)
      (try simp only [Act.put, List.setIfInBounds_toArray, List.set_cons_zero, List.set_cons_succ])
      refine wpAnyH_take (i := 6) (v := ?_) rfl (by kernel_rfl) (by kernel_rfl) (by kernel_rfl) (fun _ _ _ h => h) (Or.inl ⟨by rfl, ?_⟩) (by assumption) ?_
      rotate_left
      · intro w hSw
        (try dsimp only at hSw)
        (try (obtain ⟨_, _, _, _, _, _, _⟩ := hSw))
        (try (obtain ⟨_, _⟩ := hSw))
        go_simp
        (try with_reducible rfl)
      (try simp only [Act.put, List.setIfInBounds_toArray, List.set_cons_zero, List.set_cons_succ])
      refine wpAnyH_ready (rs := [8]) (by kernel_rfl) (by simp) ?_
      refine AllReadyH.cons rfl (fun K hK => ?_) AllReadyH.nil
      go_simp
      obtain ⟨sx, sb⟩ := store6 hga (.int .i64 (bo k 0)) (.int .i64 (bo k 1)) (.int .i64 (bo k 2)) (.int .i64 (bo k 3)) (.int .i64 (bo k 4)) (.int .i64 (bo k 5))
      have hxz := sb.at hxa (by omega)
      have hbz := bba.trans (sb.below (by omega))
      refine hK.out _ _ (cell_of_block hxz rfl) (fun _ => ?_)
      clear hK K
      (try simp only [Act.put, List.setIfInBounds_toArray, List.set_cons_zero, List.set_cons_succ])
      refine wpAnyH_take (i := 9) (v := ?_) rfl (by kernel_rfl) (by kernel_rfl) (by kernel_rfl) (fun _ _ _ h => h) (Or.inl ⟨by rfl, ?_⟩) (by assumption) ?_
      rotate_left
      · intro w hSw
        (try dsimp only at hSw)
        (try (obtain ⟨_, _, _, _, _, _, _⟩ := hSw))
        (try (obtain ⟨_, _⟩ := hSw))
        go_simp
        (try with_reducible rfl)
      (try simp only [Act.put, List.setIfInBounds_toArray, List.set_cons_zero, List.set_cons_succ])
      refine wpAnyH_done (by kernel_rfl) ?_ _
      exact key _ _ _ _ _ _ hxz sx hbz
  · have hxa := below_at (alloc_below D (.cells #[.int .i64 0, .int .i64 0, .int .i64 0, .int .i64 0, .int .i64 0, .int .i64 0] 79)) hxD
    have hga : (D.alloc (.cells #[.int .i64 0, .int .i64 0, .int .i64 0, .int .i64 0, .int .i64 0, .int .i64 0] 79)).heap[D.heap.size]? = _ := heap_new D (.cells #[.int .i64 0, .int .i64 0, .int .i64 0, .int .i64 0, .int .i64 0, .int .i64 0] 79)
    have bba := hbD.trans ((alloc_below D (.cells #[.int .i64 0, .int .i64 0, .int .i64 0, .int .i64 0, .int .i64 0, .int .i64 0] 79)).mono hbD.size)
    go_simp
    refine hK.out _ _ (cell_of_block hxa rfl) (fun _ => ?_)
    clear hK K
    (try simp only [Act.put, List.setIfInBounds_toArray, List.set_cons_zero, List.set_cons_succ])
    have hzz : D.heap.size < (D.alloc (.cells #[.int .i64 0, .int .i64 0, .int .i64 0, .int .i64 0, .int .i64 0, .int .i64 0] 79)).heap.size := lt_of_heap hga
    refine wpAnyH_ready (rs := [0]) (by kernel_rfl) (by simp) ?_
    refine AllReadyH.cons rfl (fun K hK => ?_) AllReadyH.nil
    go_simp
    refine (kinds_any _).mono ?_
    rintro e W1 ⟨rfl, hm1, hb1⟩
    have hx1 := below_at hb1 hxa
    have hg1 := below_at hb1 hga
    have bb1 := bba.trans (hb1.mono bba.size)
    have hz1 := hb1.size
    rw [show (D.alloc (.cells #[.int .i64 0, .int .i64 0, .int .i64 0, .int .i64 0, .int .i64 0, .int .i64 0] 79)).heap.size = D.heap.size + 1 by simp] at hm1
    have hl1 := kinds_look hm1 k
    unfold bv at hl1
    obtain ⟨⟨q0, q1, q2, q3, q4, q5⟩, f0, f1, f2, f3, f4, f5⟩ := blk6 hg1
    go_simp
    refine hK.out _ _ (cell_of_block hx1 rfl) (fun _ => ?_)
    clear hK K
    (try simp only [Act.put, List.setIfInBounds_toArray, List.set_cons_zero, List.set_cons_succ])
    refine wpAnyH_ready (rs := [3]) (by kernel_rfl) (by simp) ?_
    refine AllReadyH.cons rfl (fun K hK => ?_) AllReadyH.nil
    go_simp
    refine hK.out _ _ (cell_of_block hx1 rfl) (fun _ => ?_)
    clear hK K
    (try simp only [Act.put, List.setIfInBounds_toArray, List.set_cons_zero, List.set_cons_succ])
    refine wpAnyH_take (i := 4) (v := ?_) rfl (by kernel_rfl) (by kernel_rfl) (by kernel_rfl) (fun _ _ _ h => h) (Or.inl ⟨by rfl, ?_⟩) (by assumption) ?_
    rotate_left
    · intro w hSw
      (try dsimp only at hSw)
      (try (obtain ⟨_, _, _, _, _, _, _⟩ := hSw))
      (try (obtain ⟨_, _⟩ := hSw))
      go_simp
      (try with_reducible rfl)
    (try simp only [Act.put, List.setIfInBounds_toArray, List.set_cons_zero, List.set_cons_succ])
    refine wpAnyH_take (i := 5) (v := ?_) rfl (by kernel_rfl) (by kernel_rfl) (by kernel_rfl) (fun _ _ _ h => h) (Or.inl ⟨by rfl, ?_⟩) (by assumption) ?_
    rotate_left
    · intro w hSw
      (try dsimp only at hSw)
      (try (obtain ⟨_, _, _, _, _, _, _⟩ := hSw))
      (try (obtain ⟨_, _⟩ := hSw))
      go_simp
      (try with_reducible rfl)
    (try simp only [Act.put, List.setIfInBounds_toArray, List.set_cons_zero, List.set_cons_succ])
    refine wpAnyH_take (i := 6) (v := ?_) rfl (by kernel_rfl) (by kernel_rfl) (by kernel_rfl) (fun _ _ _ h => h) (Or.inl ⟨by rfl, ?_⟩) (by assumption) ?_
    rotate_left
    · intro w hSw
      (try dsimp only at hSw)
      (try (obtain ⟨_, _, _, _, _, _, _⟩ := hSw))
      (try (obtain ⟨_, _⟩ := hSw))
      go_simp
      (try with_reducible rfl)
    (try simp only [Act.put, List.setIfInBounds_toArray, List.set_cons_zero, List.set_cons_succ])
    refine wpAnyH_ready (rs := [8]) (by kernel_rfl) (by simp) ?_
    refine AllReadyH.cons rfl (fun K hK => ?_) AllReadyH.nil
    go_simp
    obtain ⟨sx, sb⟩ := store6 hg1 (.int .i64 (bo k 0)) (.int .i64 (bo k 1)) (.int .i64 (bo k 2)) (.int .i64 (bo k 3)) (.int .i64 (bo k 4)) (.int .i64 (bo k 5))
    have hxz := sb.at hx1 (by omega)
    have hbz := bb1.trans (sb.below (by omega))
    refine hK.out _ _ (cell_of_block hxz rfl) (fun _ => ?_)
    clear hK K
    (try simp only [Act.put, List.setIfInBounds_toArray, List.set_cons_zero, List.set_cons_succ])
    refine wpAnyH_take (i := 9) (v := ?_) rfl (by kernel_rfl) (by kernel_rfl) (by kernel_rfl) (fun _ _ _ h => h) (Or.inl ⟨by rfl, ?_⟩) (by assumption) ?_
    rotate_left
    · intro w hSw
      (try dsimp only at hSw)
      (try (obtain ⟨_, _, _, _, _, _, _⟩ := hSw))
      (try (obtain ⟨_, _⟩ := hSw))
      go_simp
      (try with_reducible rfl)
    (try simp only [Act.put, List.setIfInBounds_toArray, List.set_cons_zero, List.set_cons_succ])
    refine wpAnyH_done (by kernel_rfl) ?_ _
    exact key _ _ _ _ _ _ hxz sx hbz

theorem chk_7 (z : Int) : chkB 7 z = (decide (1 ≤ z) && decide (z ≤ 1048576)) := by simp [chkB, kn, inB_eq, bo]
theorem chk_n (k z : Int) (h : k = 0 ∨ k = 1 ∨ k = 2 ∨ k = 4 ∨ k = 5 ∨ k = 6) : chkB k z = decide (z = 0) := by
  have : (decide (0 ≤ z) && decide (z ≤ 0)) = decide (z = 0) := by rw [Bool.eq_iff_iff]; simp; omega
  rcases h with rfl | rfl | rfl | rfl | rfl | rfl <;> simpa [chkB, kn, inB_eq, bo] using this
theorem chk_no (k z : Int) (h : kn k = false) : chkB k z = false := by simp [chkB, h]
/-- Fine, kind by kind -/
theorem fine_no (k n : Int) (l : Nat) (h : kn k = false) : fineB k n l = false := by simp [fineB, h]
theorem fine_text (k n : Int) (l : Nat) (h : k = 0 ∨ k = 1 ∨ k = 2 ∨ k = 4 ∨ k = 5) (hl : l ≠ 0) : fineB k n l = false := by
  rcases h with rfl | rfl | rfl | rfl | rfl <;> simp [fineB, kn, inB_eq, bo] <;> intros <;> omega
theorem fine_6 (n : Int) (l : Nat) : fineB 6 n l = (decide (n = 0) && decide ((l : Int) ≤ 1048576)) := by
  have : (decide (0 ≤ n) && decide (n ≤ 0)) = decide (n = 0) := by rw [Bool.eq_iff_iff]; simp; omega
  simp [fineB, kn, inB_eq, bo, this]
theorem fine_7 (n : Int) (l : Nat) : fineB 7 n l = (decide (n = 0) && decide ((l : Int) ≤ 1048576) && decide (0 < (l : Int))) := by
  have : (decide (0 ≤ n) && decide (n ≤ 0)) = decide (n = 0) := by rw [Bool.eq_iff_iff]; simp; omega
  simp only [fineB, kn, inB_eq, bo]
  rw [Bool.eq_iff_iff]
  simp
  omega
theorem fine_0 (n : Int) : fineB 0 n 0 = (decide (n = 0) || decide (n = 1)) := by
  simp only [fineB, kn, inB_eq, bo]; rw [Bool.eq_iff_iff]; simp; omega
theorem fine_1 (n : Int) : fineB 1 n 0 = (decide (-2147483648 ≤ n) && decide (n ≤ 2147483647)) := by
  simp [fineB, kn, inB_eq, bo]
theorem fine_4 (n : Int) : fineB 4 n 0 = (decide (0 ≤ n) && decide (n ≤ 4294967295)) := by
  simp [fineB, kn, inB_eq, bo]
theorem fine_25 (k n : Int) (h : k = 2 ∨ k = 5) (hw : (Lit.int .i64 n).wf = true) : fineB k n 0 = true := by
  have hn : -9223372036854775808 ≤ n ∧ n ≤ 9223372036854775807 := by simpa [Lit.wf, IntKind.min, IntKind.max, IntKind.signed, IntKind.bits] using hw
  rcases h with rfl | rfl <;> simp [fineB, kn, inB_eq, bo] <;> omega
theorem empty_no {s : ByteArray} (h : s.size ≠ 0) : s.toList.isEmpty = false := by
  rw [ByteArray.toList_eq]
  cases hl : s.data.toList with
  | nil => exact absurd (by show s.data.size = 0; rw [← Array.length_toList, hl]; rfl) h
  | cons _ _ => rfl
theorem size0 {s : ByteArray} (h : s.size = 0) : s = { data := #[] } := by
  obtain ⟨d⟩ := s
  have : d.size = 0 := h
  have : d = #[] := Array.eq_empty_of_size_eq_zero this
  rw [this]
set_option maxHeartbeats 2000000 in
theorem rcheck_any (k z : Int) (w : World) : Calls Try.prog 15 #[.agg #[.int .i64 k, .int .i64 z]] w fun e w' => e = .returned (.bool (chkB k z)) ∧ Below w.heap.size w w' := by
  cases hk : kn k
  · rw [chk_no k z hk]
    obtain ⟨h0, h1, h2, h4, h5, h6, h7⟩ := kn_not hk
    go_enter Try.func15, Try.ntmps15
    go_wp2_with fail
    go_ret
    exact ⟨rfl, alloc_below _ _⟩
  · by_cases h7 : k = 7
    · subst h7
      clear hk
      by_cases a : 1 ≤ z
      · by_cases b : z ≤ 1048576
        · have hf : chkB 7 z = true := by rw [chk_7, decide_eq_true a, decide_eq_true b]; first | rfl | simp
          rw [hf]
          clear hf
          go_enter Try.func15, Try.ntmps15
          go_wp2_with fail
          go_ret
          exact ⟨rfl, alloc_below _ _⟩
        · have hf : chkB 7 z = false := by rw [chk_7, decide_eq_true a, decide_eq_false b]; first | rfl | simp
          rw [hf]
          clear hf
          go_enter Try.func15, Try.ntmps15
          go_wp2_with fail
          go_ret
          exact ⟨rfl, alloc_below _ _⟩
      · have hf : chkB 7 z = false := by rw [chk_7, decide_eq_false a]; first | rfl | simp
        rw [hf]
        clear hf
        go_enter Try.func15, Try.ntmps15
        go_wp2_with fail
        go_ret
        exact ⟨rfl, alloc_below _ _⟩
    · have h : k = 0 ∨ k = 1 ∨ k = 2 ∨ k = 4 ∨ k = 5 ∨ k = 6 := by have := kn_cases hk; omega
      clear hk h7
      rcases h with rfl | rfl | rfl | rfl | rfl | rfl
      all_goals
        by_cases a : z = 0
        · rw [show chkB _ z = true from by rw [chk_n _ z (by omega), decide_eq_true a]]
          go_enter Try.func15, Try.ntmps15
          go_wp2_with fail
          go_ret
          exact ⟨rfl, alloc_below _ _⟩
        · rw [show chkB _ z = false from by rw [chk_n _ z (by omega), decide_eq_false a]]
          have a' : (z == 0) = false := by simpa using a
          go_enter Try.func15, Try.ntmps15
          go_wp2_with fail
          go_ret
          exact ⟨rfl, alloc_below _ _⟩
set_option maxRecDepth 100000 in
set_option maxHeartbeats 4000000 in
theorem rfine_any (k n : Int) (s : ByteArray) (hw : (Lit.int .i64 n).wf = true) (w : World) : Calls Try.prog 53 #[.agg #[.int .i64 k, .int .i64 n, .string s]] w fun e w' => e = .returned (.bool (fineB k n s.size)) ∧ Below w.heap.size w w' := by
  by_cases h6 : k = 6
  · subst h6
    clear hw
    by_cases a : n = 0
    · by_cases b : (s.size : Int) ≤ 1048576
      · have hf : fineB 6 n s.size = true := by rw [fine_6, decide_eq_true a, decide_eq_true b]; first | rfl | simp
        rw [hf]
        clear hf
        go_enter Try.func53, Try.ntmps53
        go_wp2_with fail
        go_ret
        exact ⟨rfl, alloc_below _ _⟩
      · have hf : fineB 6 n s.size = false := by rw [fine_6, decide_eq_true a, decide_eq_false b]; first | rfl | simp
        rw [hf]
        clear hf
        go_enter Try.func53, Try.ntmps53
        go_wp2_with fail
        go_ret
        exact ⟨rfl, alloc_below _ _⟩
    · have a' : (n == 0) = false := by simpa using a
      have hf : fineB 6 n s.size = false := by rw [fine_6, decide_eq_false a]; first | rfl | simp
      rw [hf]
      clear hf
      go_enter Try.func53, Try.ntmps53
      go_wp2_with fail
      go_ret
      exact ⟨rfl, alloc_below _ _⟩
  by_cases h7 : k = 7
  · subst h7
    clear hw h6
    by_cases a : n = 0
    · by_cases b : (s.size : Int) ≤ 1048576
      · by_cases c : 0 < (s.size : Int)
        · have c' : decide (0 < s.size) = true := decide_eq_true (by omega)
          have hf : fineB 7 n s.size = true := by rw [fine_7, decide_eq_true a, decide_eq_true b, decide_eq_true c]; first | rfl | simp
          rw [hf]
          clear hf
          go_enter Try.func53, Try.ntmps53
          go_wp2_with fail
          go_ret
          exact ⟨rfl, alloc_below _ _⟩
        · have c' : decide (0 < s.size) = false := decide_eq_false (by omega)
          have hf : fineB 7 n s.size = false := by rw [fine_7, decide_eq_true a, decide_eq_true b, decide_eq_false c]; first | rfl | simp
          rw [hf]
          clear hf
          go_enter Try.func53, Try.ntmps53
          go_wp2_with fail
          go_ret
          exact ⟨rfl, alloc_below _ _⟩
      · have hf : fineB 7 n s.size = false := by rw [fine_7, decide_eq_true a, decide_eq_false b]; first | rfl | simp
        rw [hf]
        clear hf
        go_enter Try.func53, Try.ntmps53
        go_wp2_with fail
        go_ret
        exact ⟨rfl, alloc_below _ _⟩
    · have a' : (n == 0) = false := by simpa using a
      have hf : fineB 7 n s.size = false := by rw [fine_7, decide_eq_false a]; first | rfl | simp
      rw [hf]
      clear hf
      go_enter Try.func53, Try.ntmps53
      go_wp2_with fail
      go_ret
      exact ⟨rfl, alloc_below _ _⟩
  by_cases hs : s.size = 0
  · have := size0 hs
    subst this
    clear hs
    rw [show ({ data := #[] } : ByteArray).size = 0 from rfl]
    by_cases h0 : k = 0
    · subst h0
      clear hw h6 h7
      by_cases a : n = 0
      · have hf : fineB 0 n 0 = true := by rw [fine_0, decide_eq_true a]; first | rfl | simp
        rw [hf]
        clear hf
        go_enter Try.func53, Try.ntmps53
        go_wp2_with fail
        go_ret
        exact ⟨rfl, alloc_below _ _⟩
      · have a' : (n == 0) = false := by simpa using a
        by_cases b : n = 1
        · have hf : fineB 0 n 0 = true := by rw [fine_0, decide_eq_false a, decide_eq_true b]; first | rfl | simp
          rw [hf]
          clear hf
          go_enter Try.func53, Try.ntmps53
          go_wp2_with fail
          go_ret
          exact ⟨rfl, alloc_below _ _⟩
        · have b' : (n == 1) = false := by simpa using b
          have hf : fineB 0 n 0 = false := by rw [fine_0, decide_eq_false a, decide_eq_false b]; first | rfl | simp
          rw [hf]
          clear hf
          go_enter Try.func53, Try.ntmps53
          go_wp2_with fail
          go_ret
          exact ⟨rfl, alloc_below _ _⟩
    by_cases h1 : k = 1
    · subst h1
      clear hw h6 h7 h0
      by_cases a : -2147483648 ≤ n
      · by_cases b : n ≤ 2147483647
        · have hf : fineB 1 n 0 = true := by rw [fine_1, decide_eq_true a, decide_eq_true b]; first | rfl | simp
          rw [hf]
          clear hf
          go_enter Try.func53, Try.ntmps53
          go_wp2_with fail
          go_ret
          exact ⟨rfl, alloc_below _ _⟩
        · have hf : fineB 1 n 0 = false := by rw [fine_1, decide_eq_true a, decide_eq_false b]; first | rfl | simp
          rw [hf]
          clear hf
          go_enter Try.func53, Try.ntmps53
          go_wp2_with fail
          go_ret
          exact ⟨rfl, alloc_below _ _⟩
      · have hf : fineB 1 n 0 = false := by rw [fine_1, decide_eq_false a]; first | rfl | simp
        rw [hf]
        clear hf
        go_enter Try.func53, Try.ntmps53
        go_wp2_with fail
        go_ret
        exact ⟨rfl, alloc_below _ _⟩
    by_cases h4 : k = 4
    · subst h4
      clear hw h6 h7 h0 h1
      by_cases a : 0 ≤ n
      · by_cases b : n ≤ 4294967295
        · have hf : fineB 4 n 0 = true := by rw [fine_4, decide_eq_true a, decide_eq_true b]; first | rfl | simp
          rw [hf]
          clear hf
          go_enter Try.func53, Try.ntmps53
          go_wp2_with fail
          go_ret
          exact ⟨rfl, alloc_below _ _⟩
        · have hf : fineB 4 n 0 = false := by rw [fine_4, decide_eq_true a, decide_eq_false b]; first | rfl | simp
          rw [hf]
          clear hf
          go_enter Try.func53, Try.ntmps53
          go_wp2_with fail
          go_ret
          exact ⟨rfl, alloc_below _ _⟩
      · have hf : fineB 4 n 0 = false := by rw [fine_4, decide_eq_false a]; first | rfl | simp
        rw [hf]
        clear hf
        go_enter Try.func53, Try.ntmps53
        go_wp2_with fail
        go_ret
        exact ⟨rfl, alloc_below _ _⟩
    by_cases h2 : k = 2 ∨ k = 5
    · rw [fine_25 k n h2 hw]
      clear hw h6 h7 h0 h1 h4
      rcases h2 with rfl | rfl
      all_goals
        go_enter Try.func53, Try.ntmps53
        go_wp2_with fail
        go_ret
        exact ⟨rfl, alloc_below _ _⟩
    · have h2' : ¬ k = 2 := by omega
      have h5' : ¬ k = 5 := by omega
      rw [fine_no k n _ (by simp [kn, h0, h1, h2', h4, h5', h6, h7])]
      have g0 : (k == 0) = false := by simpa using h0
      have g1 : (k == 1) = false := by simpa using h1
      have g2 : (k == 2) = false := by simpa using h2'
      have g4 : (k == 4) = false := by simpa using h4
      have g5 : (k == 5) = false := by simpa using h5'
      have g6 : (k == 6) = false := by simpa using h6
      have g7 : (k == 7) = false := by simpa using h7
      clear hw h2
      go_enter Try.func53, Try.ntmps53
      go_wp2_with fail
      go_ret
      exact ⟨rfl, alloc_below _ _⟩
  · have g6 : (k == 6) = false := by simpa using h6
    have g7 : (k == 7) = false := by simpa using h7
    have hne' : s.toList.isEmpty = false := empty_no hs
    have hf : fineB k n s.size = false := by
      cases hk : kn k
      · exact fine_no k n _ hk
      · exact fine_text k n _ (by have := kn_cases hk; omega) hs
    rw [hf]
    clear hw hs hf
    go_enter Try.func53, Try.ntmps53
    go_wp2_with fail
    go_ret
    exact ⟨rfl, alloc_below _ _⟩
end Go.Proofs.Ytdglobonbhkheaa

/-
  Of, and the reference's.
-/
namespace Go.Proofs.Ytdglobonbhkheaa
set_option linter.unusedVariables false
set_option linter.unusedSimpArgs false
open Go.ChangeShapes Go.WideShapes Go.ChangeAt Go.RowKit Go.Deep
theorem of_no1 (k n : Int) (l : Nat) (k' z : Int) (h : chkB k' z = false) : ofB k n l k' z = false := by simp [ofB, h]
theorem of_no2 (k n : Int) (l : Nat) (k' z : Int) (h : ¬ k = k') : ofB k n l k' z = false := by simp [ofB, h]
theorem of_no3 (k n : Int) (l : Nat) (k' z : Int) (h : fineB k n l = false) : ofB k n l k' z = false := by simp [ofB, h]
theorem of_yes (k n : Int) (l : Nat) (z : Int) (h1 : chkB k z = true) (h3 : fineB k n l = true) : ofB k n l k z = (k != 7 || (l : Int) == z) := by simp [ofB, h1, h3]
set_option maxRecDepth 100000 in
set_option maxHeartbeats 4000000 in
theorem of_any (k n : Int) (s : ByteArray) (k' z : Int) (w : World) : Calls Try.prog 19 #[.agg #[.int .i64 k, .int .i64 n, .string s], .agg #[.int .i64 k', .int .i64 z]] w fun e w' => e = .returned (.bool (ofB k n s.size k' z)) ∧ Below w.heap.size w w' := by
  have hx0 : ((w.alloc (.cells #[.int .i64 k, .int .i64 n, .string s] 48)).alloc (.cells #[.int .i64 k', .int .i64 z] 24)).heap[w.heap.size]? = some (.cells #[.int .i64 k, .int .i64 n, .string s] 48 (0, 0)) := below_at (alloc_below _ _) (heap_new _ _)
  have hy0 : ((w.alloc (.cells #[.int .i64 k, .int .i64 n, .string s] 48)).alloc (.cells #[.int .i64 k', .int .i64 z] 24)).heap[w.heap.size + 1]? = some (.cells #[.int .i64 k', .int .i64 z] 24 (0, 0)) := heap2_new _ _ _
  have hb0 : Below w.heap.size w ((w.alloc (.cells #[.int .i64 k, .int .i64 n, .string s] 48)).alloc (.cells #[.int .i64 k', .int .i64 z] 24)) := (alloc_below _ _).alloc (by simp) _
  have CK := fun W => check_any k' z W
  have CF := fun W => ofSome_any k n s W
  cases hc : chkB k' z
  · have hN : chkN k' z = 2 := by simp [chkN, hc]
    rw [hN] at CK
    rw [show ofB k n s.size k' z = false from by exact of_no1 _ _ _ _ _ hc]
    go_enter Try.func19, Try.ntmps19
    go_wp2_with fail
    generalize (w.alloc (.cells #[.int .i64 k, .int .i64 n, .string s] 48)).alloc (.cells #[.int .i64 k', .int .i64 z] 24) = W0 at *
    refine (CK W0).mono ?_
    rintro e W1 ⟨rfl, hb1⟩
    have hx1 := below_at hb1 hx0
    have hy1 := below_at hb1 hy0
    obtain ⟨⟨c0, c1, c2⟩, _⟩ := blk3 hx1
    obtain ⟨⟨d0, d1⟩, _⟩ := blk2 hy1
    have b1 := hb0.trans (hb1.mono hb0.size)
    clear hx0 hy0
    go_wp2_with fail
    go_ret
    exact ⟨rfl, b1⟩
  · have hN : chkN k' z = 0 := by simp [chkN, hc]
    rw [hN] at CK
    by_cases he : k = k'
    · subst he
      cases hf : fineB k n s.size
      · rw [hf] at CF
        have hA := of_no3 k n s.size k z hf
        clear hf hc hN
        rw [show ofB k n s.size k z = false from by exact hA]
        go_enter Try.func19, Try.ntmps19
        go_wp2_with fail
        generalize (w.alloc (.cells #[.int .i64 k, .int .i64 n, .string s] 48)).alloc (.cells #[.int .i64 k, .int .i64 z] 24) = W0 at *
        refine (CK W0).mono ?_
        rintro e W1 ⟨rfl, hb1⟩
        have hx1 := below_at hb1 hx0
        have hy1 := below_at hb1 hy0
        obtain ⟨⟨c0, c1, c2⟩, _⟩ := blk3 hx1
        obtain ⟨⟨d0, d1⟩, _⟩ := blk2 hy1
        have b1 := hb0.trans (hb1.mono hb0.size)
        clear hx0 hy0
        go_wp2_with fail
        refine (CF W1).mono ?_
        rintro e W2 ⟨rfl, hb2⟩
        have hx2 := below_at hb2 hx1
        have hy2 := below_at hb2 hy1
        obtain ⟨⟨c0, c1, c2⟩, _⟩ := blk3 hx2
        obtain ⟨⟨d0, d1⟩, _⟩ := blk2 hy2
        have b2 := b1.trans (hb2.mono b1.size)
        clear hx1 hy1
        go_wp2_with fail
        go_ret
        exact ⟨rfl, b2⟩
      · rw [hf] at CF
        have hA := of_yes k n s.size z hc hf
        clear hf hc hN
        by_cases h7 : k = 7
        · subst h7
          have hA3 : ofB 7 n s.size 7 z = ((s.size : Int) == z) := by rw [hA]; rfl
          clear hA
          rw [show ofB 7 n s.size 7 z = ((s.size : Int) == z) from by exact hA3]
          go_enter Try.func19, Try.ntmps19
          go_wp2_with fail
          generalize (w.alloc (.cells #[.int .i64 7, .int .i64 n, .string s] 48)).alloc (.cells #[.int .i64 7, .int .i64 z] 24) = W0 at *
          refine (CK W0).mono ?_
          rintro e W1 ⟨rfl, hb1⟩
          have hx1 := below_at hb1 hx0
          have hy1 := below_at hb1 hy0
          obtain ⟨⟨c0, c1, c2⟩, _⟩ := blk3 hx1
          obtain ⟨⟨d0, d1⟩, _⟩ := blk2 hy1
          have b1 := hb0.trans (hb1.mono hb0.size)
          clear hx0 hy0
          go_wp2_with fail
          refine (CF W1).mono ?_
          rintro e W2 ⟨rfl, hb2⟩
          have hx2 := below_at hb2 hx1
          have hy2 := below_at hb2 hy1
          obtain ⟨⟨c0, c1, c2⟩, _⟩ := blk3 hx2
          obtain ⟨⟨d0, d1⟩, _⟩ := blk2 hy2
          have b2 := b1.trans (hb2.mono b1.size)
          clear hx1 hy1
          go_wp2_with fail
          go_ret
          exact ⟨rfl, b2⟩
        · have h7' : (k == 7) = false := by simpa using h7
          have hA3 : ofB k n s.size k z = true := by rw [hA]; simp [bne, h7']
          clear hA
          rw [show ofB k n s.size k z = true from by exact hA3]
          go_enter Try.func19, Try.ntmps19
          go_wp2_with fail
          generalize (w.alloc (.cells #[.int .i64 k, .int .i64 n, .string s] 48)).alloc (.cells #[.int .i64 k, .int .i64 z] 24) = W0 at *
          refine (CK W0).mono ?_
          rintro e W1 ⟨rfl, hb1⟩
          have hx1 := below_at hb1 hx0
          have hy1 := below_at hb1 hy0
          obtain ⟨⟨c0, c1, c2⟩, _⟩ := blk3 hx1
          obtain ⟨⟨d0, d1⟩, _⟩ := blk2 hy1
          have b1 := hb0.trans (hb1.mono hb0.size)
          clear hx0 hy0
          go_wp2_with fail
          refine (CF W1).mono ?_
          rintro e W2 ⟨rfl, hb2⟩
          have hx2 := below_at hb2 hx1
          have hy2 := below_at hb2 hy1
          obtain ⟨⟨c0, c1, c2⟩, _⟩ := blk3 hx2
          obtain ⟨⟨d0, d1⟩, _⟩ := blk2 hy2
          have b2 := b1.trans (hb2.mono b1.size)
          clear hx1 hy1
          go_wp2_with fail
          go_ret
          exact ⟨rfl, b2⟩
    · have he' : (k == k') = false := by simpa using he
      have hA := of_no2 k n s.size k' z he
      clear hc hN
      rw [show ofB k n s.size k' z = false from by exact hA]
      go_enter Try.func19, Try.ntmps19
      go_wp2_with fail
      generalize (w.alloc (.cells #[.int .i64 k, .int .i64 n, .string s] 48)).alloc (.cells #[.int .i64 k', .int .i64 z] 24) = W0 at *
      refine (CK W0).mono ?_
      rintro e W1 ⟨rfl, hb1⟩
      have hx1 := below_at hb1 hx0
      have hy1 := below_at hb1 hy0
      obtain ⟨⟨c0, c1, c2⟩, _⟩ := blk3 hx1
      obtain ⟨⟨d0, d1⟩, _⟩ := blk2 hy1
      have b1 := hb0.trans (hb1.mono hb0.size)
      clear hx0 hy0
      go_wp2_with fail
      go_ret
      exact ⟨rfl, b1⟩
set_option maxRecDepth 100000 in
set_option maxHeartbeats 4000000 in
theorem rof_any (k n : Int) (s : ByteArray) (k' z : Int) (hw : (Lit.int .i64 n).wf = true) (w : World) : Calls Try.prog 34 #[.agg #[.int .i64 k, .int .i64 n, .string s], .agg #[.int .i64 k', .int .i64 z]] w fun e w' => e = .returned (.bool (ofB k n s.size k' z)) ∧ Below w.heap.size w w' := by
  have hx0 : ((w.alloc (.cells #[.int .i64 k, .int .i64 n, .string s] 48)).alloc (.cells #[.int .i64 k', .int .i64 z] 24)).heap[w.heap.size]? = some (.cells #[.int .i64 k, .int .i64 n, .string s] 48 (0, 0)) := below_at (alloc_below _ _) (heap_new _ _)
  have hy0 : ((w.alloc (.cells #[.int .i64 k, .int .i64 n, .string s] 48)).alloc (.cells #[.int .i64 k', .int .i64 z] 24)).heap[w.heap.size + 1]? = some (.cells #[.int .i64 k', .int .i64 z] 24 (0, 0)) := heap2_new _ _ _
  have hb0 : Below w.heap.size w ((w.alloc (.cells #[.int .i64 k, .int .i64 n, .string s] 48)).alloc (.cells #[.int .i64 k', .int .i64 z] 24)) := (alloc_below _ _).alloc (by simp) _
  have CK := fun W => rcheck_any k' z W
  have CF := fun W => rfine_any k n s hw W
  clear hw
  cases hc : chkB k' z
  · rw [hc] at CK
    rw [show ofB k n s.size k' z = false from by exact of_no1 _ _ _ _ _ hc]
    go_enter Try.func34, Try.ntmps34
    go_wp2_with fail
    generalize (w.alloc (.cells #[.int .i64 k, .int .i64 n, .string s] 48)).alloc (.cells #[.int .i64 k', .int .i64 z] 24) = W0 at *
    refine (CK W0).mono ?_
    rintro e W1 ⟨rfl, hb1⟩
    have hx1 := below_at hb1 hx0
    have hy1 := below_at hb1 hy0
    obtain ⟨⟨c0, c1, c2⟩, _⟩ := blk3 hx1
    obtain ⟨⟨d0, d1⟩, _⟩ := blk2 hy1
    have b1 := hb0.trans (hb1.mono hb0.size)
    clear hx0 hy0
    go_wp2_with fail
    go_ret
    exact ⟨rfl, b1⟩
  · rw [hc] at CK
    cases hf : fineB k n s.size
    · rw [hf] at CF
      have hA := of_no3 k n s.size k' z hf
      clear hf hc
      rw [show ofB k n s.size k' z = false from by exact hA]
      go_enter Try.func34, Try.ntmps34
      go_wp2_with fail
      generalize (w.alloc (.cells #[.int .i64 k, .int .i64 n, .string s] 48)).alloc (.cells #[.int .i64 k', .int .i64 z] 24) = W0 at *
      refine (CK W0).mono ?_
      rintro e W1 ⟨rfl, hb1⟩
      have hx1 := below_at hb1 hx0
      have hy1 := below_at hb1 hy0
      obtain ⟨⟨c0, c1, c2⟩, _⟩ := blk3 hx1
      obtain ⟨⟨d0, d1⟩, _⟩ := blk2 hy1
      have b1 := hb0.trans (hb1.mono hb0.size)
      clear hx0 hy0
      go_wp2_with fail
      refine (CF W1).mono ?_
      rintro e W2 ⟨rfl, hb2⟩
      have hx2 := below_at hb2 hx1
      have hy2 := below_at hb2 hy1
      obtain ⟨⟨c0, c1, c2⟩, _⟩ := blk3 hx2
      obtain ⟨⟨d0, d1⟩, _⟩ := blk2 hy2
      have b2 := b1.trans (hb2.mono b1.size)
      clear hx1 hy1
      go_wp2_with fail
      go_ret
      exact ⟨rfl, b2⟩
    · rw [hf] at CF
      by_cases he : k = k'
      · subst he
        have hA := of_yes k n s.size z hc hf
        clear hf hc
        by_cases h7 : k = 7
        · subst h7
          have hA3 : ofB 7 n s.size 7 z = ((s.size : Int) == z) := by rw [hA]; rfl
          clear hA
          rw [show ofB 7 n s.size 7 z = ((s.size : Int) == z) from by exact hA3]
          go_enter Try.func34, Try.ntmps34
          go_wp2_with fail
          generalize (w.alloc (.cells #[.int .i64 7, .int .i64 n, .string s] 48)).alloc (.cells #[.int .i64 7, .int .i64 z] 24) = W0 at *
          refine (CK W0).mono ?_
          rintro e W1 ⟨rfl, hb1⟩
          have hx1 := below_at hb1 hx0
          have hy1 := below_at hb1 hy0
          obtain ⟨⟨c0, c1, c2⟩, _⟩ := blk3 hx1
          obtain ⟨⟨d0, d1⟩, _⟩ := blk2 hy1
          have b1 := hb0.trans (hb1.mono hb0.size)
          clear hx0 hy0
          go_wp2_with fail
          refine (CF W1).mono ?_
          rintro e W2 ⟨rfl, hb2⟩
          have hx2 := below_at hb2 hx1
          have hy2 := below_at hb2 hy1
          obtain ⟨⟨c0, c1, c2⟩, _⟩ := blk3 hx2
          obtain ⟨⟨d0, d1⟩, _⟩ := blk2 hy2
          have b2 := b1.trans (hb2.mono b1.size)
          clear hx1 hy1
          go_wp2_with fail
          go_ret
          exact ⟨rfl, b2⟩
        · have h7' : (k == 7) = false := by simpa using h7
          have hA3 : ofB k n s.size k z = true := by rw [hA]; simp [bne, h7']
          clear hA
          rw [show ofB k n s.size k z = true from by exact hA3]
          go_enter Try.func34, Try.ntmps34
          go_wp2_with fail
          generalize (w.alloc (.cells #[.int .i64 k, .int .i64 n, .string s] 48)).alloc (.cells #[.int .i64 k, .int .i64 z] 24) = W0 at *
          refine (CK W0).mono ?_
          rintro e W1 ⟨rfl, hb1⟩
          have hx1 := below_at hb1 hx0
          have hy1 := below_at hb1 hy0
          obtain ⟨⟨c0, c1, c2⟩, _⟩ := blk3 hx1
          obtain ⟨⟨d0, d1⟩, _⟩ := blk2 hy1
          have b1 := hb0.trans (hb1.mono hb0.size)
          clear hx0 hy0
          go_wp2_with fail
          refine (CF W1).mono ?_
          rintro e W2 ⟨rfl, hb2⟩
          have hx2 := below_at hb2 hx1
          have hy2 := below_at hb2 hy1
          obtain ⟨⟨c0, c1, c2⟩, _⟩ := blk3 hx2
          obtain ⟨⟨d0, d1⟩, _⟩ := blk2 hy2
          have b2 := b1.trans (hb2.mono b1.size)
          clear hx1 hy1
          go_wp2_with fail
          go_ret
          exact ⟨rfl, b2⟩
      · have he' : (k == k') = false := by simpa using he
        have hA := of_no2 k n s.size k' z he
        clear hc hf
        rw [show ofB k n s.size k' z = false from by exact hA]
        go_enter Try.func34, Try.ntmps34
        go_wp2_with fail
        generalize (w.alloc (.cells #[.int .i64 k, .int .i64 n, .string s] 48)).alloc (.cells #[.int .i64 k', .int .i64 z] 24) = W0 at *
        refine (CK W0).mono ?_
        rintro e W1 ⟨rfl, hb1⟩
        have hx1 := below_at hb1 hx0
        have hy1 := below_at hb1 hy0
        obtain ⟨⟨c0, c1, c2⟩, _⟩ := blk3 hx1
        obtain ⟨⟨d0, d1⟩, _⟩ := blk2 hy1
        have b1 := hb0.trans (hb1.mono hb0.size)
        clear hx0 hy0
        go_wp2_with fail
        refine (CF W1).mono ?_
        rintro e W2 ⟨rfl, hb2⟩
        have hx2 := below_at hb2 hx1
        have hy2 := below_at hb2 hy1
        obtain ⟨⟨c0, c1, c2⟩, _⟩ := blk3 hx2
        obtain ⟨⟨d0, d1⟩, _⟩ := blk2 hy2
        have b2 := b1.trans (hb2.mono b1.size)
        clear hx1 hy1
        go_wp2_with fail
        go_ret
        exact ⟨rfl, b2⟩
end Go.Proofs.Ytdglobonbhkheaa
