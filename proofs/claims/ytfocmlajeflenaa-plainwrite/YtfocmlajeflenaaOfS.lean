/-
  ofSome: a datum is of a type, whatever its Size.
-/
import Derived.Test.YtfocmlajeflenaaKinds
import Derived.Test.YtfocmlajeflenaaBox
import Derived.Deep.RegionHeld3
namespace Go.Proofs.Ytfocmlajeflenaa
set_option linter.unusedVariables false
set_option linter.unusedSimpArgs false
open Go.ChangeShapes Go.WideShapes Go.ChangeAt Go.RowKit Go.Deep

set_option maxRecDepth 100000 in
set_option maxHeartbeats 2000000 in
theorem ofSome_any (k n : Int) (s : ByteArray) (w : World) : Calls Try.prog 30 #[.agg #[.int .i64 k, .int .i64 n, .string s]] w fun e w' => e = .returned (.bool (fineB k n s.size)) ∧ Below w.heap.size w w' := by
  have hx : (w.alloc (.cells #[.int .i64 k, .int .i64 n, .string s] 48)).heap[w.heap.size]? = some (.cells #[.int .i64 k, .int .i64 n, .string s] 48 (0, 0)) := heap_new w _
  have hb0 : Below w.heap.size w (w.alloc (.cells #[.int .i64 k, .int .i64 n, .string s] 48)) := alloc_below w _
  go_enter Try.func30, Try.ntmps30
  go_wp2_with fail
  generalize w.alloc (.cells #[.int .i64 k, .int .i64 n, .string s] 48) = W0 at *
  rename_i Qx Kx ax
  have key : ∀ (s5 s6 s9 s10 : Value) (X : World) (g : Nat), X.heap[w.heap.size]? = some (.cells #[.int .i64 k, .int .i64 n, .string s] 48 (0, 0)) → X.heap[g]? = some (.cells #[.int .i64 (bo k 0), .int .i64 (bo k 1), .int .i64 (bo k 2), .int .i64 (bo k 3), .int .i64 (bo k 4), .int .i64 (bo k 5)] 79 (0, 0)) → Below w.heap.size w X →
      Exit.then Kx Qx .normal { tmps := #[.agg #[.int .i64 k, .int .i64 n, .string s], .pointer (some ⟨w.heap.size, 0, none⟩), .bool false, .pointer (some ⟨g, 0, none⟩), .bool (kn k), s5, s6, .pointer (some ⟨w.heap.size, 0, none⟩), .int .i64 k, s9, s10, .bool (kn k), undef, undef, undef, undef, undef, undef], defers := [] } X := by
    intro s5 s6 s9 s10 X g hxX hg hb
    clear hx
    clear hb0
    obtain ⟨⟨c0, c1, c2⟩, _⟩ := blk3 hxX
    obtain ⟨⟨d0, d1, d2, d3, d4, d5⟩, _⟩ := blk6 hg
    have HO := hold_any (bo k 0) (bo k 1) (bo k 2) (bo k 3) (bo k 4) (bo k 5) k n s X
    have HF : Hid (fineB k n s.size = (kn k && (inB (bo k 2) (bo k 3) n && inB (bo k 4) (bo k 5) (s.size : Int)))) := rfl
    generalize (inB (bo k 2) (bo k 3) n && inB (bo k 4) (bo k 5) (s.size : Int)) = u at *
    generalize bo k 0 = e0 at *
    generalize bo k 1 = e1 at *
    generalize bo k 2 = e2 at *
    generalize bo k 3 = e3 at *
    generalize bo k 4 = e4 at *
    generalize bo k 5 = e5 at *
    generalize kn k = t at *
    cases t
    · go_wp2_with fail
      go_ret
      exact ⟨by rw [HF.out]; rfl, hb⟩
    · go_wp2_with fail
      refine HO.mono ?_
      rintro e X2 ⟨rfl, hb2⟩
      go_wp2_with fail
      go_ret
      exact ⟨by rw [HF.out]; rfl, hb.trans (hb2.mono hb.size)⟩
  have hxD : W0.drew.heap[w.heap.size]? = _ := hx
  have hbD : Below w.heap.size w W0.drew := hb0.drew
  have hltD : w.heap.size < W0.drew.heap.size := lt_of_heap hx
  have cD : W0.drew.cell? ⟨w.heap.size, 0, none⟩ = some (.int .i64 k) := cell_of_block hxD rfl
  refine wp_region_held_drew (S := fun W => W.cell? ⟨w.heap.size, 0, none⟩ = some (.int .i64 k)) (by kernel_rfl) cD (fun hHeld => ?_)
  clear hHeld hx hb0
  generalize W0.drew = D at *
  refine wpAnyH_take (i := 1) (v := ?_) rfl (by kernel_rfl) (by kernel_rfl) (by kernel_rfl) (fun _ _ _ h => h) (Or.inl ⟨by rfl, ?_⟩) (by assumption) ?_
  rotate_left
  · intro w hSw
    (try dsimp only at hSw)
    (try (obtain ⟨_, _, _, _, _, _, _⟩ := hSw))
    (try (obtain ⟨_, _⟩ := hSw))
    go_simp
    (try with_reducible rfl)
  (try simp only [Act.put, List.setIfInBounds_toArray, List.set_cons_zero, List.set_cons_succ])
  refine wpAnyH_take (i := 2) (v := ?_) rfl (by kernel_rfl) (by kernel_rfl) (by kernel_rfl) (fun _ _ _ h => h) (Or.inl ⟨by rfl, ?_⟩) (by assumption) ?_
  rotate_left
  · intro w hSw
    (try dsimp only at hSw)
    (try (obtain ⟨_, _, _, _, _, _, _⟩ := hSw))
    (try (obtain ⟨_, _⟩ := hSw))
    go_simp
    (try with_reducible rfl)
  (try simp only [Act.put, List.setIfInBounds_toArray, List.set_cons_zero, List.set_cons_succ])
  refine wpAnyH_ready (rs := [0, 7]) (by kernel_rfl) (by simp) ?_
  refine AllReadyH.cons rfl (fun K hK => ?_) (AllReadyH.cons rfl (fun K hK => ?_) AllReadyH.nil)
  · go_simp
    refine (kinds_any _).mono ?_
    rintro e W1 ⟨rfl, hm1, hb1⟩
    have hx1 := below_at hb1 hxD
    have bb1 := hbD.trans (hb1.mono hbD.size)
    have hz1 := hb1.size
    have hl1 := kinds_look hm1 k
    unfold bv at hl1
    go_simp
    refine hK.out _ _ (cell_of_block hx1 rfl) (fun _ => ?_)
    clear hK K
    (try simp only [Act.put, List.setIfInBounds_toArray, List.set_cons_zero, List.set_cons_succ])
    refine wpAnyH_ready (rs := [3, 7]) (by kernel_rfl) (by simp) ?_
    refine AllReadyH.cons rfl (fun K hK => ?_) (AllReadyH.cons rfl (fun K hK => ?_) AllReadyH.nil)
    · go_simp
      refine hK.out _ _ (cell_of_block hx1 rfl) (fun _ => ?_)
      clear hK K
      (try simp only [Act.put, List.setIfInBounds_toArray, List.set_cons_zero, List.set_cons_succ])
      refine wpAnyH_take (i := 4) (v := ?_) rfl (by kernel_rfl) (by kernel_rfl) (by kernel_rfl) (fun _ _ _ h => h) (Or.inl ⟨by rfl, ?_⟩) (by assumption) ?_
      rotate_left
      · intro w hSw
        (try dsimp only at hSw)
        (try (obtain ⟨_, _, _, _, _, _, _⟩ := hSw))
        (try (obtain ⟨_, _⟩ := hSw))
        go_simp
        (try with_reducible rfl)
      (try simp only [Act.put, List.setIfInBounds_toArray, List.set_cons_zero, List.set_cons_succ])
      refine wpAnyH_take (i := 5) (v := ?_) rfl (by kernel_rfl) (by kernel_rfl) (by kernel_rfl) (fun _ _ _ h => h) (Or.inl ⟨by rfl, ?_⟩) (by assumption) ?_
      rotate_left
      · intro w hSw
        (try dsimp only at hSw)
        (try (obtain ⟨_, _, _, _, _, _, _⟩ := hSw))
        (try (obtain ⟨_, _⟩ := hSw))
        go_simp
        (try with_reducible rfl)
      (try simp only [Act.put, List.setIfInBounds_toArray, List.set_cons_zero, List.set_cons_succ])
      refine wpAnyH_take (i := 6) (v := ?_) rfl (by kernel_rfl) (by kernel_rfl) (by kernel_rfl) (fun _ _ _ h => h) (Or.inl ⟨by rfl, ?_⟩) (by assumption) ?_
      rotate_left
      · intro w hSw
        (try dsimp only at hSw)
        (try (obtain ⟨_, _, _, _, _, _, _⟩ := hSw))
        (try (obtain ⟨_, _⟩ := hSw))
        go_simp
        (try with_reducible rfl)
      (try simp only [Act.put, List.setIfInBounds_toArray, List.set_cons_zero, List.set_cons_succ])
      have hxa := below_at (alloc_below W1 (.cells #[.int .i64 0, .int .i64 0, .int .i64 0, .int .i64 0, .int .i64 0, .int .i64 0] 79)) hx1
      have hga : (W1.alloc (.cells #[.int .i64 0, .int .i64 0, .int .i64 0, .int .i64 0, .int .i64 0, .int .i64 0] 79)).heap[W1.heap.size]? = _ := heap_new W1 (.cells #[.int .i64 0, .int .i64 0, .int .i64 0, .int .i64 0, .int .i64 0, .int .i64 0] 79)
      have bba := bb1.trans ((alloc_below W1 (.cells #[.int .i64 0, .int .i64 0, .int .i64 0, .int .i64 0, .int .i64 0, .int .i64 0] 79)).mono bb1.size)
      refine wpAnyH_ready (rs := [7]) (by kernel_rfl) (by simp) ?_
      refine AllReadyH.cons rfl (fun K hK => ?_) AllReadyH.nil
      go_simp
      refine hK.out _ _ (cell_of_block hxa rfl) (fun _ => ?_)
      clear hK K
      (try simp only [Act.put, List.setIfInBounds_toArray, List.set_cons_zero, List.set_cons_succ])
      generalize W1.alloc (.cells #[.int .i64 0, .int .i64 0, .int .i64 0, .int .i64 0, .int .i64 0, .int .i64 0] 79) = Xa at *
      obtain ⟨⟨q0, q1, q2, q3, q4, q5⟩, f0, f1, f2, f3, f4, f5⟩ := blk6 hga
      refine wpAnyH_ready (rs := [8]) (by kernel_rfl) (by simp) ?_
      refine AllReadyH.cons rfl (fun K hK => ?_) AllReadyH.nil
      go_simp
      obtain ⟨sx, sb⟩ := store6 hga (.int .i64 (bo k 0)) (.int .i64 (bo k 1)) (.int .i64 (bo k 2)) (.int .i64 (bo k 3)) (.int .i64 (bo k 4)) (.int .i64 (bo k 5))
      have hxz := sb.at hxa (by omega)
      have hbz := bba.trans (sb.below (by omega))
      refine hK.out _ _ (cell_of_block hxz rfl) (fun _ => ?_)
      clear hK K
      (try simp only [Act.put, List.setIfInBounds_toArray, List.set_cons_zero, List.set_cons_succ])
      refine wpAnyH_take (i := 9) (v := ?_) rfl (by kernel_rfl) (by kernel_rfl) (by kernel_rfl) (fun _ _ _ h => h) (Or.inl ⟨by rfl, ?_⟩) (by assumption) ?_
      rotate_left
      · intro w hSw
        (try dsimp only at hSw)
        (try (obtain ⟨_, _, _, _, _, _, _⟩ := hSw))
        (try (obtain ⟨_, _⟩ := hSw))
        go_simp
        (try with_reducible rfl)
      (try simp only [Act.put, List.setIfInBounds_toArray, List.set_cons_zero, List.set_cons_succ])
      refine wpAnyH_done (by kernel_rfl) ?_ _
      exact key _ _ _ _ _ _ hxz sx hbz
    · have hma : (W1.alloc (.cells #[.int .i64 0, .int .i64 0, .int .i64 0, .int .i64 0, .int .i64 0, .int .i64 0] 79)).heap[D.heap.size]? = _ := below_at (alloc_below W1 (.cells #[.int .i64 0, .int .i64 0, .int .i64 0, .int .i64 0, .int .i64 0, .int .i64 0] 79)) hm1
      have hla := kinds_look hma k
      unfold bv at hla
      have hxa := below_at (alloc_below W1 (.cells #[.int .i64 0, .int .i64 0, .int .i64 0, .int .i64 0, .int .i64 0, .int .i64 0] 79)) hx1
      have hga : (W1.alloc (.cells #[.int .i64 0, .int .i64 0, .int .i64 0, .int .i64 0, .int .i64 0, .int .i64 0] 79)).heap[W1.heap.size]? = _ := heap_new W1 (.cells #[.int .i64 0, .int .i64 0, .int .i64 0, .int .i64 0, .int .i64 0, .int .i64 0] 79)
      have bba := bb1.trans ((alloc_below W1 (.cells #[.int .i64 0, .int .i64 0, .int .i64 0, .int .i64 0, .int .i64 0, .int .i64 0] 79)).mono bb1.size)
      go_simp
      refine hK.out _ _ (cell_of_block hxa rfl) (fun _ => ?_)
      clear hK K
      (try simp only [Act.put, List.setIfInBounds_toArray, List.set_cons_zero, List.set_cons_succ])
      generalize W1.alloc (.cells #[.int .i64 0, .int .i64 0, .int .i64 0, .int .i64 0, .int .i64 0, .int .i64 0] 79) = Xa at *
      obtain ⟨⟨q0, q1, q2, q3, q4, q5⟩, f0, f1, f2, f3, f4, f5⟩ := blk6 hga
      refine wpAnyH_ready (rs := [3]) (by kernel_rfl) (by simp) ?_
      refine AllReadyH.cons rfl (fun K hK => ?_) AllReadyH.nil
      go_simp
      refine hK.out _ _ (cell_of_block hxa rfl) (fun _ => ?_)
      clear hK K
      (try simp only [Act.put, List.setIfInBounds_toArray, List.set_cons_zero, List.set_cons_succ])
      refine wpAnyH_take (i := 4) (v := ?_) rfl (by kernel_rfl) (by kernel_rfl) (by kernel_rfl) (fun _ _ _ h => h) (Or.inl ⟨by rfl, ?_⟩) (by assumption) ?_
      rotate_left
      · intro w hSw
        (try dsimp only at hSw)
        (try (obtain ⟨_, _, _, _, _, _, _⟩ := hSw))
        (try (obtain ⟨_, _⟩ := hSw))
        go_simp
        (try with_reducible rfl)
      (try simp only [Act.put, List.setIfInBounds_toArray, List.set_cons_zero, List.set_cons_succ])
      refine wpAnyH_take (i := 5) (v := ?_) rfl (by kernel_rfl) (by kernel_rfl) (by kernel_rfl) (fun _ _ _ h => h) (Or.inl ⟨by rfl, ?_⟩) (by assumption) ?_
      rotate_left
      · intro w hSw
        (try dsimp only at hSw)
        (try (obtain ⟨_, _, _, _, _, _, _⟩ := hSw))
        (try (obtain ⟨_, _⟩ := hSw))
        go_simp
        (try with_reducible rfl)
      (try simp only [Act.put, List.setIfInBounds_toArray, List.set_cons_zero, List.set_cons_succ])
      refine wpAnyH_take (i := 6) (v := ?_) rfl (by kernel_rfl) (by kernel_rfl) (by kernel_rfl) (fun _ _ _ h => h) (Or.inl ⟨by rfl, ?_⟩) (by assumption) ?_
      rotate_left
      · intro w hSw
        (try dsimp only at hSw)
        (try (obtain ⟨_, _, _, _, _, _, _⟩ := hSw))
        (try (obtain ⟨_, _⟩ := hSw))
        go_simp
        (try with_reducible rfl)
      (try simp only [Act.put, List.setIfInBounds_toArray, List.set_cons_zero, List.set_cons_succ])
      refine wpAnyH_ready (rs := [8]) (by kernel_rfl) (by simp) ?_
      refine AllReadyH.cons rfl (fun K hK => ?_) AllReadyH.nil
      go_simp
      obtain ⟨sx, sb⟩ := store6 hga (.int .i64 (bo k 0)) (.int .i64 (bo k 1)) (.int .i64 (bo k 2)) (.int .i64 (bo k 3)) (.int .i64 (bo k 4)) (.int .i64 (bo k 5))
      have hxz := sb.at hxa (by omega)
      have hbz := bba.trans (sb.below (by omega))
      refine hK.out _ _ (cell_of_block hxz rfl) (fun _ => ?_)
      clear hK K
      (try simp only [Act.put, List.setIfInBounds_toArray, List.set_cons_zero, List.set_cons_succ])
      refine wpAnyH_take (i := 9) (v := ?_) rfl (by kernel_rfl) (by kernel_rfl) (by kernel_rfl) (fun _ _ _ h => h) (Or.inl ⟨by rfl, ?_⟩) (by assumption) ?_
      rotate_left
      · intro w hSw
        (try dsimp only at hSw)
        (try (obtain ⟨_, _, _, _, _, _, _⟩ := hSw))
        (try (obtain ⟨_, _⟩ := hSw))
        go_simp
        (try with_reducible rfl)
      (try simp only [Act.put, List.setIfInBounds_toArray, List.set_cons_zero, List.set_cons_succ])
      refine wpAnyH_done (by kernel_rfl) ?_ _
      exact key _ _ _ _ _ _ hxz sx hbz
  · have hxa := below_at (alloc_below D (.cells #[.int .i64 0, .int .i64 0, .int .i64 0, .int .i64 0, .int .i64 0, .int .i64 0] 79)) hxD
    have hga : (D.alloc (.cells #[.int .i64 0, .int .i64 0, .int .i64 0, .int .i64 0, .int .i64 0, .int .i64 0] 79)).heap[D.heap.size]? = _ := heap_new D (.cells #[.int .i64 0, .int .i64 0, .int .i64 0, .int .i64 0, .int .i64 0, .int .i64 0] 79)
    have bba := hbD.trans ((alloc_below D (.cells #[.int .i64 0, .int .i64 0, .int .i64 0, .int .i64 0, .int .i64 0, .int .i64 0] 79)).mono hbD.size)
    go_simp
    refine hK.out _ _ (cell_of_block hxa rfl) (fun _ => ?_)
    clear hK K
    (try simp only [Act.put, List.setIfInBounds_toArray, List.set_cons_zero, List.set_cons_succ])
    have hzz : D.heap.size < (D.alloc (.cells #[.int .i64 0, .int .i64 0, .int .i64 0, .int .i64 0, .int .i64 0, .int .i64 0] 79)).heap.size := lt_of_heap hga
    refine wpAnyH_ready (rs := [0]) (by kernel_rfl) (by simp) ?_
    refine AllReadyH.cons rfl (fun K hK => ?_) AllReadyH.nil
    go_simp
    refine (kinds_any _).mono ?_
    rintro e W1 ⟨rfl, hm1, hb1⟩
    have hx1 := below_at hb1 hxa
    have hg1 := below_at hb1 hga
    have bb1 := bba.trans (hb1.mono bba.size)
    have hz1 := hb1.size
    rw [show (D.alloc (.cells #[.int .i64 0, .int .i64 0, .int .i64 0, .int .i64 0, .int .i64 0, .int .i64 0] 79)).heap.size = D.heap.size + 1 by simp] at hm1
    have hl1 := kinds_look hm1 k
    unfold bv at hl1
    obtain ⟨⟨q0, q1, q2, q3, q4, q5⟩, f0, f1, f2, f3, f4, f5⟩ := blk6 hg1
    go_simp
    refine hK.out _ _ (cell_of_block hx1 rfl) (fun _ => ?_)
    clear hK K
    (try simp only [Act.put, List.setIfInBounds_toArray, List.set_cons_zero, List.set_cons_succ])
    refine wpAnyH_ready (rs := [3]) (by kernel_rfl) (by simp) ?_
    refine AllReadyH.cons rfl (fun K hK => ?_) AllReadyH.nil
    go_simp
    refine hK.out _ _ (cell_of_block hx1 rfl) (fun _ => ?_)
    clear hK K
    (try simp only [Act.put, List.setIfInBounds_toArray, List.set_cons_zero, List.set_cons_succ])
    refine wpAnyH_take (i := 4) (v := ?_) rfl (by kernel_rfl) (by kernel_rfl) (by kernel_rfl) (fun _ _ _ h => h) (Or.inl ⟨by rfl, ?_⟩) (by assumption) ?_
    rotate_left
    · intro w hSw
      (try dsimp only at hSw)
      (try (obtain ⟨_, _, _, _, _, _, _⟩ := hSw))
      (try (obtain ⟨_, _⟩ := hSw))
      go_simp
      (try with_reducible rfl)
    (try simp only [Act.put, List.setIfInBounds_toArray, List.set_cons_zero, List.set_cons_succ])
    refine wpAnyH_take (i := 5) (v := ?_) rfl (by kernel_rfl) (by kernel_rfl) (by kernel_rfl) (fun _ _ _ h => h) (Or.inl ⟨by rfl, ?_⟩) (by assumption) ?_
    rotate_left
    · intro w hSw
      (try dsimp only at hSw)
      (try (obtain ⟨_, _, _, _, _, _, _⟩ := hSw))
      (try (obtain ⟨_, _⟩ := hSw))
      go_simp
      (try with_reducible rfl)
    (try simp only [Act.put, List.setIfInBounds_toArray, List.set_cons_zero, List.set_cons_succ])
    refine wpAnyH_take (i := 6) (v := ?_) rfl (by kernel_rfl) (by kernel_rfl) (by kernel_rfl) (fun _ _ _ h => h) (Or.inl ⟨by rfl, ?_⟩) (by assumption) ?_
    rotate_left
    · intro w hSw
      (try dsimp only at hSw)
      (try (obtain ⟨_, _, _, _, _, _, _⟩ := hSw))
      (try (obtain ⟨_, _⟩ := hSw))
      go_simp
      (try with_reducible rfl)
    (try simp only [Act.put, List.setIfInBounds_toArray, List.set_cons_zero, List.set_cons_succ])
    refine wpAnyH_ready (rs := [8]) (by kernel_rfl) (by simp) ?_
    refine AllReadyH.cons rfl (fun K hK => ?_) AllReadyH.nil
    go_simp
    obtain ⟨sx, sb⟩ := store6 hg1 (.int .i64 (bo k 0)) (.int .i64 (bo k 1)) (.int .i64 (bo k 2)) (.int .i64 (bo k 3)) (.int .i64 (bo k 4)) (.int .i64 (bo k 5))
    have hxz := sb.at hx1 (by omega)
    have hbz := bb1.trans (sb.below (by omega))
    refine hK.out _ _ (cell_of_block hxz rfl) (fun _ => ?_)
    clear hK K
    (try simp only [Act.put, List.setIfInBounds_toArray, List.set_cons_zero, List.set_cons_succ])
    refine wpAnyH_take (i := 9) (v := ?_) rfl (by kernel_rfl) (by kernel_rfl) (by kernel_rfl) (fun _ _ _ h => h) (Or.inl ⟨by rfl, ?_⟩) (by assumption) ?_
    rotate_left
    · intro w hSw
      (try dsimp only at hSw)
      (try (obtain ⟨_, _, _, _, _, _, _⟩ := hSw))
      (try (obtain ⟨_, _⟩ := hSw))
      go_simp
      (try with_reducible rfl)
    (try simp only [Act.put, List.setIfInBounds_toArray, List.set_cons_zero, List.set_cons_succ])
    refine wpAnyH_done (by kernel_rfl) ?_ _
    exact key _ _ _ _ _ _ hxz sx hbz
end Go.Proofs.Ytfocmlajeflenaa
