/-
  Compare.
-/
import Derived.Test.YtndeglamnnipoaaRq
namespace Go.Proofs.Ytndeglamnnipoaa
set_option linter.unusedVariables false
set_option linter.unusedSimpArgs false
open Go.ChangeShapes Go.WideShapes Go.ChangeAt Go.RowKit Go.Deep Go.Sort

theorem cmp_no {k n : Int} {s : List UInt8} {k' n' : Int} {s' : List UInt8} (h : cmpA k n s k' n' s' = false) : cmpN k n s k' n' s' = 0 ∧ cmpB k n s k' n' s' = false := by
  simp [cmpN, cmpB, h]
theorem cmp_s {k n : Int} {s : List UInt8} {k' n' : Int} {s' : List UInt8} (h : cmpA k n s k' n' s' = true) (hk : k = 6 ∨ k = 7) : cmpN k n s k' n' s' = lexC s s' ∧ cmpB k n s k' n' s' = true := by
  refine ⟨by simp [cmpN, h, hk], ?_⟩
  rcases hk with rfl | rfl <;> simp [cmpB, h]
theorem cmp_f {k n : Int} {s : List UInt8} {k' n' : Int} {s' : List UInt8} (h : cmpA k n s k' n' s' = true) (hk : k = 4 ∨ k = 5) : cmpN k n s k' n' s' = oN (ordF k n n') ∧ cmpB k n s k' n' s' = (ordF k n n').isSome := by
  rcases hk with rfl | rfl <;> simp [cmpN, cmpB, h]
theorem cmp_i {k n : Int} {s : List UInt8} {k' n' : Int} {s' : List UInt8} (h : cmpA k n s k' n' s' = true) (h4 : ¬ k = 4) (h5 : ¬ k = 5) (h6 : ¬ k = 6) (h7 : ¬ k = 7) : cmpN k n s k' n' s' = cI n n' ∧ cmpB k n s k' n' s' = true := by
  simp [cmpN, cmpB, h, h4, h5, h6, h7]
theorem cmpA_eq (k n : Int) (s : ByteArray) (k' n' : Int) (s' : ByteArray) : cmpA k n s.data.toList k' n' s'.data.toList = (fineB k n s.size && fineB k' n' s'.size && (k == k')) := by
  unfold cmpA
  rw [show s.data.toList.length = s.size by simp, show s'.data.toList.length = s'.size by simp]
set_option maxRecDepth 100000 in
set_option maxHeartbeats 8000000 in
theorem compare_any (k n : Int) (s : ByteArray) (k' n' : Int) (s' : ByteArray) (w : World) : Calls Try.prog 17 #[.agg #[.int .i64 k, .int .i64 n, .string s], .agg #[.int .i64 k', .int .i64 n', .string s']] w fun e w' => e = .returned (.tuple #[.int .i64 (cmpN k n s.data.toList k' n' s'.data.toList), .bool (cmpB k n s.data.toList k' n' s'.data.toList)]) ∧ Below w.heap.size w w' := by
  have hA := cmpA_eq k n s k' n' s'
  have hN := @cmp_no k n s.data.toList k' n' s'.data.toList
  have hS := @cmp_s k n s.data.toList k' n' s'.data.toList
  have hF := @cmp_f k n s.data.toList k' n' s'.data.toList
  have hI := @cmp_i k n s.data.toList k' n' s'.data.toList
  generalize hcn : cmpN k n s.data.toList k' n' s'.data.toList = cn at *
  generalize hcb : cmpB k n s.data.toList k' n' s'.data.toList = cb at *
  generalize hca : cmpA k n s.data.toList k' n' s'.data.toList = ca at *
  clear hcn hcb hca
  have hx : ((w.alloc (.cells #[.int .i64 k, .int .i64 n, .string s] 29)).alloc (.cells #[.int .i64 k', .int .i64 n', .string s'] 29)).heap[w.heap.size]? = some (.cells #[.int .i64 k, .int .i64 n, .string s] 29 (0, 0)) := below_at (alloc_below _ _) (heap_new _ _)
  have hy : ((w.alloc (.cells #[.int .i64 k, .int .i64 n, .string s] 29)).alloc (.cells #[.int .i64 k', .int .i64 n', .string s'] 29)).heap[w.heap.size + 1]? = some (.cells #[.int .i64 k', .int .i64 n', .string s'] 29 (0, 0)) := heap2_new _ _ _
  have hbw : Below w.heap.size w ((w.alloc (.cells #[.int .i64 k, .int .i64 n, .string s] 29)).alloc (.cells #[.int .i64 k', .int .i64 n', .string s'] 29)) := (alloc_below _ _).alloc (by simp) _
  go_enter Try.func17, Try.ntmps17
  go_wp2_with fail
  generalize ((w.alloc (.cells #[.int .i64 k, .int .i64 n, .string s] 29)).alloc (.cells #[.int .i64 k', .int .i64 n', .string s'] 29)) = W0 at *
  rename_i Qx Kx ax
  have key : ∀ (s5 s6 s9 s10 : Value) (X : World) (g : Nat), X.heap[w.heap.size]? = some (.cells #[.int .i64 k, .int .i64 n, .string s] 29 (0, 0)) → X.heap[g]? = some (.cells #[.int .i64 (bo k 0), .int .i64 (bo k 1), .int .i64 (bo k 2), .int .i64 (bo k 3), .int .i64 (bo k 4), .int .i64 (bo k 5)] 57 (0, 0)) → Below W0.heap.size W0 X →
      Exit.then Kx Qx .normal { tmps := #[.agg #[.int .i64 k, .int .i64 n, .string s], .agg #[.int .i64 k', .int .i64 n', .string s'], .pointer (some ⟨w.heap.size, 0, none⟩), .pointer (some ⟨w.heap.size + 1, 0, none⟩), .int .i64 0, .bool false, .pointer (some ⟨g, 0, none⟩), .bool (kn k), s5, s6, .pointer (some ⟨w.heap.size, 0, none⟩), .int .i64 k, s9, s10, .bool (kn k), undef, undef, undef, undef, undef, undef, undef, undef, undef, undef, undef, undef, undef, undef, undef, undef, undef, undef, undef, undef, undef, undef, undef, undef, undef, undef, undef, undef, undef, undef, undef, undef, undef, undef, undef, undef, undef, undef, undef, undef, undef, undef, undef, undef, undef, undef, undef, undef, undef, undef, undef, undef], defers := [] } X := by
    intro s5 s6 s9 s10 X g hxX hg hbX
    have hyX := below_at hbX hy
    have hb := hbw.trans (hbX.mono hbw.size)
    clear hx hy hbw hbX
    obtain ⟨⟨c0, c1, c2⟩, _⟩ := blk3 hxX
    obtain ⟨⟨d0, d1, d2⟩, _⟩ := blk3 hyX
    obtain ⟨⟨q0, q1, q2, q3, q4, q5⟩, _⟩ := blk6 hg
    have HO := fun W => hold_any (bo k 0) (bo k 1) (bo k 2) (bo k 3) (bo k 4) (bo k 5) k n s W
    have HP := fun W => hold_any (bo k 0) (bo k 1) (bo k 2) (bo k 3) (bo k 4) (bo k 5) k' n' s' W
    have F1 : fineB k n s.size = (kn k && (inB (bo k 2) (bo k 3) n && inB (bo k 4) (bo k 5) (s.size : Int))) := rfl
    have F2 : k = k' → fineB k' n' s'.size = (kn k && (inB (bo k 2) (bo k 3) n' && inB (bo k 4) (bo k 5) (s'.size : Int))) := fun e => by rw [← e]; rfl
    generalize (inB (bo k 2) (bo k 3) n && inB (bo k 4) (bo k 5) (s.size : Int)) = u at *
    generalize (inB (bo k 2) (bo k 3) n' && inB (bo k 4) (bo k 5) (s'.size : Int)) = v at *
    generalize bo k 0 = e0 at *
    generalize bo k 1 = e1 at *
    generalize bo k 2 = e2 at *
    generalize bo k 3 = e3 at *
    generalize bo k 4 = e4 at *
    generalize bo k 5 = e5 at *
    generalize kn k = t at *
    generalize fineB k n s.size = f1 at *
    generalize fineB k' n' s'.size = f2 at *
    cases t
    · have HE : Hid (cn = 0 ∧ cb = false) := hN (hA.trans (by rw [F1]; rfl))
      clear HO HP F1 F2 hA hN hS hF hI
      go_wp2_with fail
      go_ret2
      exact ⟨(by rw [HE.out.1, HE.out.2]; try rfl), hb⟩
    by_cases he : k = k'
    · subst he
      have F2 := F2 rfl
      cases u
      · have HE : Hid (cn = 0 ∧ cb = false) := hN (hA.trans (by rw [F1]; rfl))
        clear HP F1 F2 hA hN hS hF hI
        go_wp2_with fail
        refine (HO _).mono ?_
        rintro e X2 ⟨rfl, hb2⟩
        go_wp2_with fail
        go_ret2
        exact ⟨(by rw [HE.out.1, HE.out.2]; try rfl), hb.trans (hb2.mono hb.size)⟩
      have hx2 := fun X2 (h2 : Below X.heap.size X X2) => below_at h2 hxX
      have hy2 := fun X2 (h2 : Below X.heap.size X X2) => below_at h2 hyX
      have hg2 := fun X2 (h2 : Below X.heap.size X X2) => below_at h2 hg
      cases v
      · have HE : Hid (cn = 0 ∧ cb = false) := hN (hA.trans (by rw [F2]; simp))
        clear F1 F2 hA hN hS hF hI
        go_wp2_with fail
        refine (HO _).mono ?_
        rintro e X2 ⟨rfl, hb2⟩
        obtain ⟨⟨q0, q1, q2, q3, q4, q5⟩, _⟩ := blk6 (hg2 X2 hb2)
        obtain ⟨⟨d0, d1, d2⟩, _⟩ := blk3 (hy2 X2 hb2)
        have hb3 := hb.trans (hb2.mono hb.size)
        clear hx2 hy2 hg2
        go_wp2_with fail
        refine (HP _).mono ?_
        rintro e X3 ⟨rfl, hb4⟩
        go_wp2_with fail
        go_ret2
        exact ⟨(by rw [HE.out.1, HE.out.2]; try rfl), hb3.trans (hb4.mono hb3.size)⟩
      have hca : ca = true := hA.trans (by rw [F1, F2]; simp)
      clear F1 F2 hA hN
      by_cases h6 : k = 6
      · subst h6
        have HE : Hid (cn = lexC s.toList s'.toList ∧ cb = true) := by have hE := hS hca (by omega); rw [← ByteArray.toList_eq, ← ByteArray.toList_eq] at hE; exact hE
        clear hS hF hI hca
        have CC := fun W => order_s s s' W
        go_wp2_with fail
        refine (HO _).mono ?_
        rintro e X2 ⟨rfl, hb2⟩
        have hxx := hx2 X2 hb2
        have hyy := hy2 X2 hb2
        have hgg := hg2 X2 hb2
        have hb3 := hb.trans (hb2.mono hb.size)
        clear hx2 hy2 hg2 hxX hyX hg HO
        obtain ⟨⟨q0, q1, q2, q3, q4, q5⟩, _⟩ := blk6 hgg
        obtain ⟨⟨d0, d1, d2⟩, _⟩ := blk3 hyy
        go_wp2_with fail
        refine (HP _).mono ?_
        rintro e X3 ⟨rfl, hb4⟩
        have hx3 := below_at hb4 hxx
        have hy3 := below_at hb4 hyy
        have hb5 := hb3.trans (hb4.mono hb3.size)
        clear hxx hyy hgg HP hb hb2 hb3 hb4
        obtain ⟨⟨c0, c1, c2⟩, _⟩ := blk3 hx3
        obtain ⟨⟨d0, d1, d2⟩, _⟩ := blk3 hy3
        go_wp2_with fail
        refine (CC _).mono ?_
        rintro e X4 ⟨rfl, hx4⟩
        obtain rfl := hx4.symm
        go_wp2_with fail
        go_ret2
        exact ⟨(by rw [HE.out.1, HE.out.2]; try rfl), hb5⟩
      by_cases h7 : k = 7
      · subst h7
        have HE : Hid (cn = lexC s.toList s'.toList ∧ cb = true) := by have hE := hS hca (by omega); rw [← ByteArray.toList_eq, ← ByteArray.toList_eq] at hE; exact hE
        clear hS hF hI hca
        have CC := fun W => order_s s s' W
        go_wp2_with fail
        refine (HO _).mono ?_
        rintro e X2 ⟨rfl, hb2⟩
        have hxx := hx2 X2 hb2
        have hyy := hy2 X2 hb2
        have hgg := hg2 X2 hb2
        have hb3 := hb.trans (hb2.mono hb.size)
        clear hx2 hy2 hg2 hxX hyX hg HO
        obtain ⟨⟨q0, q1, q2, q3, q4, q5⟩, _⟩ := blk6 hgg
        obtain ⟨⟨d0, d1, d2⟩, _⟩ := blk3 hyy
        go_wp2_with fail
        refine (HP _).mono ?_
        rintro e X3 ⟨rfl, hb4⟩
        have hx3 := below_at hb4 hxx
        have hy3 := below_at hb4 hyy
        have hb5 := hb3.trans (hb4.mono hb3.size)
        clear hxx hyy hgg HP hb hb2 hb3 hb4
        obtain ⟨⟨c0, c1, c2⟩, _⟩ := blk3 hx3
        obtain ⟨⟨d0, d1, d2⟩, _⟩ := blk3 hy3
        go_wp2_with fail
        refine (CC _).mono ?_
        rintro e X4 ⟨rfl, hx4⟩
        obtain rfl := hx4.symm
        go_wp2_with fail
        go_ret2
        exact ⟨(by rw [HE.out.1, HE.out.2]; try rfl), hb5⟩
      by_cases h4 : k = 4
      · subst h4
        have HE : Hid (cn = oN (ordF 4 n n') ∧ cb = (ordF 4 n n').isSome) := hF hca (by omega)
        clear hS hF hI hca
        have C1 := fun W => real64_any 4 n s W
        have C2 := fun W => real64_any 4 n' s' W
        go_wp2_with fail
        refine (HO _).mono ?_
        rintro e X2 ⟨rfl, hb2⟩
        have hxx := hx2 X2 hb2
        have hyy := hy2 X2 hb2
        have hgg := hg2 X2 hb2
        have hb3 := hb.trans (hb2.mono hb.size)
        clear hx2 hy2 hg2 hxX hyX hg HO
        obtain ⟨⟨q0, q1, q2, q3, q4, q5⟩, _⟩ := blk6 hgg
        obtain ⟨⟨d0, d1, d2⟩, _⟩ := blk3 hyy
        go_wp2_with fail
        refine (HP _).mono ?_
        rintro e X3 ⟨rfl, hb4⟩
        have hx3 := below_at hb4 hxx
        have hy3 := below_at hb4 hyy
        have hb5 := hb3.trans (hb4.mono hb3.size)
        clear hxx hyy hgg HP hb hb2 hb3 hb4
        obtain ⟨⟨c0, c1, c2⟩, _⟩ := blk3 hx3
        obtain ⟨⟨d0, d1, d2⟩, _⟩ := blk3 hy3
        go_wp2_with fail
        have HF : Hid (∀ W, Below X3.heap.size X3 W → (W.cell? ⟨w.heap.size, 0, none⟩ = some (.int .i64 4) ∧ W.cell? ⟨w.heap.size, 1, none⟩ = some (.int .i64 n) ∧ W.cell? ⟨w.heap.size, 2, none⟩ = some (.string s)) ∧ (W.cell? ⟨w.heap.size + 1, 0, none⟩ = some (.int .i64 4) ∧ W.cell? ⟨w.heap.size + 1, 1, none⟩ = some (.int .i64 n') ∧ W.cell? ⟨w.heap.size + 1, 2, none⟩ = some (.string s'))) := fun W h => ⟨(blk3 (below_at h hx3)).1, (blk3 (below_at h hy3)).1⟩
        have hS0 : Below X3.heap.size X3 X3.drew := (Below.refl _ _).drew
        clear hx3 hy3 c0 c1 c2 d0 d1 d2
        refine wp_region_held_drew (S := fun W => Below X3.heap.size X3 W) (by kernel_rfl) hS0 (fun hHeld => ?_)
        clear hHeld
        generalize X3.drew = D at *
        refine wpAnyH_take (i := 0) (v := ?_) rfl (by kernel_rfl) (by kernel_rfl) (by kernel_rfl) (fun _ _ _ h => h) (Or.inl ⟨by rfl, ?_⟩) (by assumption) ?_
        rotate_left
        · intro w hSw
          have hSx := HF.out w hSw
          (try (obtain ⟨_, _, _, _, _, _, _, _⟩ := hSx))
          (try (obtain ⟨_, _, _, _⟩ := hSx))
          (try (obtain ⟨_, _, _⟩ := hSx))
          (try (obtain ⟨_, _⟩ := hSx))
          go_simp
          (try with_reducible rfl)
        (try simp only [Act.put, List.setIfInBounds_toArray, List.set_cons_zero, List.set_cons_succ])
        refine wpAnyH_take (i := 2) (v := ?_) rfl (by kernel_rfl) (by kernel_rfl) (by kernel_rfl) (fun _ _ _ h => h) (Or.inl ⟨by rfl, ?_⟩) (by assumption) ?_
        rotate_left
        · intro w hSw
          have hSx := HF.out w hSw
          (try (obtain ⟨_, _, _, _, _, _, _, _⟩ := hSx))
          (try (obtain ⟨_, _, _, _⟩ := hSx))
          (try (obtain ⟨_, _, _⟩ := hSx))
          (try (obtain ⟨_, _⟩ := hSx))
          go_simp
          (try with_reducible rfl)
        (try simp only [Act.put, List.setIfInBounds_toArray, List.set_cons_zero, List.set_cons_succ])
        refine wpAnyH_ready (rs := [1]) (by kernel_rfl) (by simp) ?_
        refine AllReadyH.cons rfl (fun K hK => ?_) AllReadyH.nil
        go_simp
        refine (C1 _).mono ?_
        rintro e Y1 ⟨r1, rfl, hr1, hbx⟩
        have hS1 : Below X3.heap.size X3 Y1 := hS0.trans (hbx.mono hS0.size)
        clear hbx
        go_simp
        refine hK.out _ _ hS1 (fun _ => ?_)
        clear hK K
        (try simp only [Act.put, List.setIfInBounds_toArray, List.set_cons_zero, List.set_cons_succ])
        refine wpAnyH_ready (rs := [3]) (by kernel_rfl) (by simp) ?_
        refine AllReadyH.cons rfl (fun K hK => ?_) AllReadyH.nil
        go_simp
        refine (C2 _).mono ?_
        rintro e Y2 ⟨r2, rfl, hr2, hbx⟩
        have hS2 : Below X3.heap.size X3 Y2 := hS1.trans (hbx.mono hS1.size)
        clear hbx
        go_simp
        refine hK.out _ _ hS2 (fun _ => ?_)
        clear hK K
        (try simp only [Act.put, List.setIfInBounds_toArray, List.set_cons_zero, List.set_cons_succ])
        have CC := order_f r1 r2 _ (isR_ord hr1 hr2) Y2
        refine wpAnyH_ready (rs := [4]) (by kernel_rfl) (by simp) ?_
        refine AllReadyH.cons rfl (fun K hK => ?_) AllReadyH.nil
        go_simp
        refine CC.mono ?_
        rintro e X4 ⟨rfl, hx4⟩
        obtain rfl := hx4.symm
        clear CC
        go_simp
        refine hK.out _ _ hS2 (fun _ => ?_)
        clear hK K
        (try simp only [Act.put, List.setIfInBounds_toArray, List.set_cons_zero, List.set_cons_succ])
        refine wpAnyH_take (i := 5) (v := ?_) rfl (by kernel_rfl) (by kernel_rfl) (by kernel_rfl) (fun _ _ _ h => h) (Or.inl ⟨by rfl, ?_⟩) (by assumption) ?_
        rotate_left
        · intro w hSw
          have hSx := HF.out w hSw
          (try (obtain ⟨_, _, _, _, _, _, _, _⟩ := hSx))
          (try (obtain ⟨_, _, _, _⟩ := hSx))
          (try (obtain ⟨_, _, _⟩ := hSx))
          (try (obtain ⟨_, _⟩ := hSx))
          go_simp
          (try with_reducible rfl)
        (try simp only [Act.put, List.setIfInBounds_toArray, List.set_cons_zero, List.set_cons_succ])
        refine wpAnyH_take (i := 6) (v := ?_) rfl (by kernel_rfl) (by kernel_rfl) (by kernel_rfl) (fun _ _ _ h => h) (Or.inl ⟨by rfl, ?_⟩) (by assumption) ?_
        rotate_left
        · intro w hSw
          have hSx := HF.out w hSw
          (try (obtain ⟨_, _, _, _, _, _, _, _⟩ := hSx))
          (try (obtain ⟨_, _, _, _⟩ := hSx))
          (try (obtain ⟨_, _, _⟩ := hSx))
          (try (obtain ⟨_, _⟩ := hSx))
          go_simp
          (try with_reducible rfl)
        (try simp only [Act.put, List.setIfInBounds_toArray, List.set_cons_zero, List.set_cons_succ])
        refine wpAnyH_take (i := 7) (v := ?_) rfl (by kernel_rfl) (by kernel_rfl) (by kernel_rfl) (fun _ _ _ h => h) (Or.inl ⟨by rfl, ?_⟩) (by assumption) ?_
        rotate_left
        · intro w hSw
          have hSx := HF.out w hSw
          (try (obtain ⟨_, _, _, _, _, _, _, _⟩ := hSx))
          (try (obtain ⟨_, _, _, _⟩ := hSx))
          (try (obtain ⟨_, _, _⟩ := hSx))
          (try (obtain ⟨_, _⟩ := hSx))
          go_simp
          (try with_reducible rfl)
        (try simp only [Act.put, List.setIfInBounds_toArray, List.set_cons_zero, List.set_cons_succ])
        refine wpAnyH_take (i := 8) (v := ?_) rfl (by kernel_rfl) (by kernel_rfl) (by kernel_rfl) (fun _ _ _ h => h) (Or.inl ⟨by rfl, ?_⟩) (by assumption) ?_
        rotate_left
        · intro w hSw
          have hSx := HF.out w hSw
          (try (obtain ⟨_, _, _, _, _, _, _, _⟩ := hSx))
          (try (obtain ⟨_, _, _, _⟩ := hSx))
          (try (obtain ⟨_, _, _⟩ := hSx))
          (try (obtain ⟨_, _⟩ := hSx))
          go_simp
          (try with_reducible rfl)
        (try simp only [Act.put, List.setIfInBounds_toArray, List.set_cons_zero, List.set_cons_succ])
        refine wpAnyH_done (by kernel_rfl) ?_ _
        go_wp2_with fail
        go_ret2
        exact ⟨(by rw [HE.out.1, HE.out.2]; try rfl), hb5.trans (hS2.mono hb5.size)⟩
      by_cases h5 : k = 5
      · subst h5
        have HE : Hid (cn = oN (ordF 5 n n') ∧ cb = (ordF 5 n n').isSome) := hF hca (by omega)
        clear hS hF hI hca
        have C1 := fun W => real64_any 5 n s W
        have C2 := fun W => real64_any 5 n' s' W
        go_wp2_with fail
        refine (HO _).mono ?_
        rintro e X2 ⟨rfl, hb2⟩
        have hxx := hx2 X2 hb2
        have hyy := hy2 X2 hb2
        have hgg := hg2 X2 hb2
        have hb3 := hb.trans (hb2.mono hb.size)
        clear hx2 hy2 hg2 hxX hyX hg HO
        obtain ⟨⟨q0, q1, q2, q3, q4, q5⟩, _⟩ := blk6 hgg
        obtain ⟨⟨d0, d1, d2⟩, _⟩ := blk3 hyy
        go_wp2_with fail
        refine (HP _).mono ?_
        rintro e X3 ⟨rfl, hb4⟩
        have hx3 := below_at hb4 hxx
        have hy3 := below_at hb4 hyy
        have hb5 := hb3.trans (hb4.mono hb3.size)
        clear hxx hyy hgg HP hb hb2 hb3 hb4
        obtain ⟨⟨c0, c1, c2⟩, _⟩ := blk3 hx3
        obtain ⟨⟨d0, d1, d2⟩, _⟩ := blk3 hy3
        go_wp2_with fail
        have HF : Hid (∀ W, Below X3.heap.size X3 W → (W.cell? ⟨w.heap.size, 0, none⟩ = some (.int .i64 5) ∧ W.cell? ⟨w.heap.size, 1, none⟩ = some (.int .i64 n) ∧ W.cell? ⟨w.heap.size, 2, none⟩ = some (.string s)) ∧ (W.cell? ⟨w.heap.size + 1, 0, none⟩ = some (.int .i64 5) ∧ W.cell? ⟨w.heap.size + 1, 1, none⟩ = some (.int .i64 n') ∧ W.cell? ⟨w.heap.size + 1, 2, none⟩ = some (.string s'))) := fun W h => ⟨(blk3 (below_at h hx3)).1, (blk3 (below_at h hy3)).1⟩
        have hS0 : Below X3.heap.size X3 X3.drew := (Below.refl _ _).drew
        clear hx3 hy3 c0 c1 c2 d0 d1 d2
        refine wp_region_held_drew (S := fun W => Below X3.heap.size X3 W) (by kernel_rfl) hS0 (fun hHeld => ?_)
        clear hHeld
        generalize X3.drew = D at *
        refine wpAnyH_take (i := 0) (v := ?_) rfl (by kernel_rfl) (by kernel_rfl) (by kernel_rfl) (fun _ _ _ h => h) (Or.inl ⟨by rfl, ?_⟩) (by assumption) ?_
        rotate_left
        · intro w hSw
          have hSx := HF.out w hSw
          (try (obtain ⟨_, _, _, _, _, _, _, _⟩ := hSx))
          (try (obtain ⟨_, _, _, _⟩ := hSx))
          (try (obtain ⟨_, _, _⟩ := hSx))
          (try (obtain ⟨_, _⟩ := hSx))
          go_simp
          (try with_reducible rfl)
        (try simp only [Act.put, List.setIfInBounds_toArray, List.set_cons_zero, List.set_cons_succ])
        refine wpAnyH_take (i := 2) (v := ?_) rfl (by kernel_rfl) (by kernel_rfl) (by kernel_rfl) (fun _ _ _ h => h) (Or.inl ⟨by rfl, ?_⟩) (by assumption) ?_
        rotate_left
        · intro w hSw
          have hSx := HF.out w hSw
          (try (obtain ⟨_, _, _, _, _, _, _, _⟩ := hSx))
          (try (obtain ⟨_, _, _, _⟩ := hSx))
          (try (obtain ⟨_, _, _⟩ := hSx))
          (try (obtain ⟨_, _⟩ := hSx))
          go_simp
          (try with_reducible rfl)
        (try simp only [Act.put, List.setIfInBounds_toArray, List.set_cons_zero, List.set_cons_succ])
        refine wpAnyH_ready (rs := [1]) (by kernel_rfl) (by simp) ?_
        refine AllReadyH.cons rfl (fun K hK => ?_) AllReadyH.nil
        go_simp
        refine (C1 _).mono ?_
        rintro e Y1 ⟨r1, rfl, hr1, hbx⟩
        have hS1 : Below X3.heap.size X3 Y1 := hS0.trans (hbx.mono hS0.size)
        clear hbx
        go_simp
        refine hK.out _ _ hS1 (fun _ => ?_)
        clear hK K
        (try simp only [Act.put, List.setIfInBounds_toArray, List.set_cons_zero, List.set_cons_succ])
        refine wpAnyH_ready (rs := [3]) (by kernel_rfl) (by simp) ?_
        refine AllReadyH.cons rfl (fun K hK => ?_) AllReadyH.nil
        go_simp
        refine (C2 _).mono ?_
        rintro e Y2 ⟨r2, rfl, hr2, hbx⟩
        have hS2 : Below X3.heap.size X3 Y2 := hS1.trans (hbx.mono hS1.size)
        clear hbx
        go_simp
        refine hK.out _ _ hS2 (fun _ => ?_)
        clear hK K
        (try simp only [Act.put, List.setIfInBounds_toArray, List.set_cons_zero, List.set_cons_succ])
        have CC := order_f r1 r2 _ (isR_ord hr1 hr2) Y2
        refine wpAnyH_ready (rs := [4]) (by kernel_rfl) (by simp) ?_
        refine AllReadyH.cons rfl (fun K hK => ?_) AllReadyH.nil
        go_simp
        refine CC.mono ?_
        rintro e X4 ⟨rfl, hx4⟩
        obtain rfl := hx4.symm
        clear CC
        go_simp
        refine hK.out _ _ hS2 (fun _ => ?_)
        clear hK K
        (try simp only [Act.put, List.setIfInBounds_toArray, List.set_cons_zero, List.set_cons_succ])
        refine wpAnyH_take (i := 5) (v := ?_) rfl (by kernel_rfl) (by kernel_rfl) (by kernel_rfl) (fun _ _ _ h => h) (Or.inl ⟨by rfl, ?_⟩) (by assumption) ?_
        rotate_left
        · intro w hSw
          have hSx := HF.out w hSw
          (try (obtain ⟨_, _, _, _, _, _, _, _⟩ := hSx))
          (try (obtain ⟨_, _, _, _⟩ := hSx))
          (try (obtain ⟨_, _, _⟩ := hSx))
          (try (obtain ⟨_, _⟩ := hSx))
          go_simp
          (try with_reducible rfl)
        (try simp only [Act.put, List.setIfInBounds_toArray, List.set_cons_zero, List.set_cons_succ])
        refine wpAnyH_take (i := 6) (v := ?_) rfl (by kernel_rfl) (by kernel_rfl) (by kernel_rfl) (fun _ _ _ h => h) (Or.inl ⟨by rfl, ?_⟩) (by assumption) ?_
        rotate_left
        · intro w hSw
          have hSx := HF.out w hSw
          (try (obtain ⟨_, _, _, _, _, _, _, _⟩ := hSx))
          (try (obtain ⟨_, _, _, _⟩ := hSx))
          (try (obtain ⟨_, _, _⟩ := hSx))
          (try (obtain ⟨_, _⟩ := hSx))
          go_simp
          (try with_reducible rfl)
        (try simp only [Act.put, List.setIfInBounds_toArray, List.set_cons_zero, List.set_cons_succ])
        refine wpAnyH_take (i := 7) (v := ?_) rfl (by kernel_rfl) (by kernel_rfl) (by kernel_rfl) (fun _ _ _ h => h) (Or.inl ⟨by rfl, ?_⟩) (by assumption) ?_
        rotate_left
        · intro w hSw
          have hSx := HF.out w hSw
          (try (obtain ⟨_, _, _, _, _, _, _, _⟩ := hSx))
          (try (obtain ⟨_, _, _, _⟩ := hSx))
          (try (obtain ⟨_, _, _⟩ := hSx))
          (try (obtain ⟨_, _⟩ := hSx))
          go_simp
          (try with_reducible rfl)
        (try simp only [Act.put, List.setIfInBounds_toArray, List.set_cons_zero, List.set_cons_succ])
        refine wpAnyH_take (i := 8) (v := ?_) rfl (by kernel_rfl) (by kernel_rfl) (by kernel_rfl) (fun _ _ _ h => h) (Or.inl ⟨by rfl, ?_⟩) (by assumption) ?_
        rotate_left
        · intro w hSw
          have hSx := HF.out w hSw
          (try (obtain ⟨_, _, _, _, _, _, _, _⟩ := hSx))
          (try (obtain ⟨_, _, _, _⟩ := hSx))
          (try (obtain ⟨_, _, _⟩ := hSx))
          (try (obtain ⟨_, _⟩ := hSx))
          go_simp
          (try with_reducible rfl)
        (try simp only [Act.put, List.setIfInBounds_toArray, List.set_cons_zero, List.set_cons_succ])
        refine wpAnyH_done (by kernel_rfl) ?_ _
        go_wp2_with fail
        go_ret2
        exact ⟨(by rw [HE.out.1, HE.out.2]; try rfl), hb5.trans (hS2.mono hb5.size)⟩
      have HE : Hid (cn = cI n n' ∧ cb = true) := hI hca h4 h5 h6 h7
      clear hS hF hI hca
      have CC := fun W => order_i n n' W
      have g4 : (k == 4) = false := by simpa using h4
      have g5 : (k == 5) = false := by simpa using h5
      have g6 : (k == 6) = false := by simpa using h6
      have g7 : (k == 7) = false := by simpa using h7
      go_wp2_with fail
      refine (HO _).mono ?_
      rintro e X2 ⟨rfl, hb2⟩
      have hxx := hx2 X2 hb2
      have hyy := hy2 X2 hb2
      have hgg := hg2 X2 hb2
      have hb3 := hb.trans (hb2.mono hb.size)
      clear hx2 hy2 hg2 hxX hyX hg HO
      obtain ⟨⟨q0, q1, q2, q3, q4, q5⟩, _⟩ := blk6 hgg
      obtain ⟨⟨d0, d1, d2⟩, _⟩ := blk3 hyy
      go_wp2_with fail
      refine (HP _).mono ?_
      rintro e X3 ⟨rfl, hb4⟩
      have hx3 := below_at hb4 hxx
      have hy3 := below_at hb4 hyy
      have hb5 := hb3.trans (hb4.mono hb3.size)
      clear hxx hyy hgg HP hb hb2 hb3 hb4
      obtain ⟨⟨c0, c1, c2⟩, _⟩ := blk3 hx3
      obtain ⟨⟨d0, d1, d2⟩, _⟩ := blk3 hy3
      go_wp2_with fail
      refine (CC _).mono ?_
      rintro e X4 ⟨rfl, hx4⟩
      obtain rfl := hx4.symm
      go_wp2_with fail
      go_ret2
      exact ⟨(by rw [HE.out.1, HE.out.2]; try rfl), hb5⟩
    · have he' : (k == k') = false := by simpa using he
      have HE : Hid (cn = 0 ∧ cb = false) := hN (hA.trans (by rw [he']; simp))
      clear HO HP F1 F2 hA hN hS hF hI
      go_wp2_with fail
      go_ret2
      exact ⟨(by rw [HE.out.1, HE.out.2]; try rfl), hb⟩
  clear hA hN hS hF hI
  have hb0 : Below W0.heap.size W0 W0 := Below.refl _ _
  have hxD : W0.drew.heap[w.heap.size]? = _ := hx
  have hbD : Below W0.heap.size W0 W0.drew := hb0.drew
  have hzD := hbD.size
  have hltW := lt_of_heap hx
  have hltD : w.heap.size < W0.drew.heap.size := lt_of_heap hx
  have cD : W0.drew.cell? ⟨w.heap.size, 0, none⟩ = some (.int .i64 k) := cell_of_block hxD rfl
  refine wp_region_held_drew (S := fun W => W.cell? ⟨w.heap.size, 0, none⟩ = some (.int .i64 k)) (by kernel_rfl) cD (fun hHeld => ?_)
  clear hHeld hx hb0
  generalize W0.drew = D at *
  refine wpAnyH_take (i := 1) (v := ?_) rfl (by kernel_rfl) (by kernel_rfl) (by kernel_rfl) (fun _ _ _ h => h) (Or.inl ⟨by rfl, ?_⟩) (by assumption) ?_
  rotate_left
  · intro w hSw
    (try dsimp only at hSw)
    (try (obtain ⟨_, _, _, _, _, _, _⟩ := hSw))
    (try (obtain ⟨_, _⟩ := hSw))
    go_simp
    (try with_reducible rfl)
  (try simp only [Act.put, List.setIfInBounds_toArray, List.set_cons_zero, List.set_cons_succ])
  refine wpAnyH_take (i := 2) (v := ?_) rfl (by kernel_rfl) (by kernel_rfl) (by kernel_rfl) (fun _ _ _ h => h) (Or.inl ⟨by rfl, ?_⟩) (by assumption) ?_
  rotate_left
  · intro w hSw
    (try dsimp only at hSw)
    (try (obtain ⟨_, _, _, _, _, _, _⟩ := hSw))
    (try (obtain ⟨_, _⟩ := hSw))
    go_simp
    (try with_reducible rfl)
  (try simp only [Act.put, List.setIfInBounds_toArray, List.set_cons_zero, List.set_cons_succ])
  refine wpAnyH_ready (rs := [0, 7]) (by kernel_rfl) (by simp) ?_
  refine AllReadyH.cons rfl (fun K hK => ?_) (AllReadyH.cons rfl (fun K hK => ?_) AllReadyH.nil)
  · go_simp
    refine (kinds_any _).mono ?_
    rintro e W1 ⟨rfl, hm1, hb1⟩
    have hx1 := below_at hb1 hxD
    have bb1 := hbD.trans (hb1.mono hbD.size)
    have hz1 := hb1.size
    have hl1 := kinds_look hm1 k
    unfold bv at hl1
    go_simp
    refine hK.out _ _ (cell_of_block hx1 rfl) (fun _ => ?_)
    clear hK K
    (try simp only [Act.put, List.setIfInBounds_toArray, List.set_cons_zero, List.set_cons_succ])
    refine wpAnyH_ready (rs := [3, 7]) (by kernel_rfl) (by simp) ?_
    refine AllReadyH.cons rfl (fun K hK => ?_) (AllReadyH.cons rfl (fun K hK => ?_) AllReadyH.nil)
    · go_simp
      refine hK.out _ _ (cell_of_block hx1 rfl) (fun _ => ?_)
      clear hK K
      (try simp only [Act.put, List.setIfInBounds_toArray, List.set_cons_zero, List.set_cons_succ])
      refine wpAnyH_take (i := 4) (v := ?_) rfl (by kernel_rfl) (by kernel_rfl) (by kernel_rfl) (fun _ _ _ h => h) (Or.inl ⟨by rfl, ?_⟩) (by assumption) ?_
      rotate_left
      · intro w hSw
        (try dsimp only at hSw)
        (try (obtain ⟨_, _, _, _, _, _, _⟩ := hSw))
        (try (obtain ⟨_, _⟩ := hSw))
        go_simp
        (try with_reducible rfl)
      (try simp only [Act.put, List.setIfInBounds_toArray, List.set_cons_zero, List.set_cons_succ])
      refine wpAnyH_take (i := 5) (v := ?_) rfl (by kernel_rfl) (by kernel_rfl) (by kernel_rfl) (fun _ _ _ h => h) (Or.inl ⟨by rfl, ?_⟩) (by assumption) ?_
      rotate_left
      · intro w hSw
        (try dsimp only at hSw)
        (try (obtain ⟨_, _, _, _, _, _, _⟩ := hSw))
        (try (obtain ⟨_, _⟩ := hSw))
        go_simp
        (try with_reducible rfl)
      (try simp only [Act.put, List.setIfInBounds_toArray, List.set_cons_zero, List.set_cons_succ])
      refine wpAnyH_take (i := 6) (v := ?_) rfl (by kernel_rfl) (by kernel_rfl) (by kernel_rfl) (fun _ _ _ h => h) (Or.inl ⟨by rfl, ?_⟩) (by assumption) ?_
      rotate_left
      · intro w hSw
        (try dsimp only at hSw)
        (try (obtain ⟨_, _, _, _, _, _, _⟩ := hSw))
        (try (obtain ⟨_, _⟩ := hSw))
        go_simp
        (try with_reducible rfl)
      (try simp only [Act.put, List.setIfInBounds_toArray, List.set_cons_zero, List.set_cons_succ])
      have hxa := below_at (alloc_below W1 (.cells #[.int .i64 0, .int .i64 0, .int .i64 0, .int .i64 0, .int .i64 0, .int .i64 0] 57)) hx1
      have hga : (W1.alloc (.cells #[.int .i64 0, .int .i64 0, .int .i64 0, .int .i64 0, .int .i64 0, .int .i64 0] 57)).heap[W1.heap.size]? = _ := heap_new W1 (.cells #[.int .i64 0, .int .i64 0, .int .i64 0, .int .i64 0, .int .i64 0, .int .i64 0] 57)
      have bba := bb1.trans ((alloc_below W1 (.cells #[.int .i64 0, .int .i64 0, .int .i64 0, .int .i64 0, .int .i64 0, .int .i64 0] 57)).mono bb1.size)
      refine wpAnyH_ready (rs := [7]) (by kernel_rfl) (by simp) ?_
      refine AllReadyH.cons rfl (fun K hK => ?_) AllReadyH.nil
      go_simp
      refine hK.out _ _ (cell_of_block hxa rfl) (fun _ => ?_)
      clear hK K
      (try simp only [Act.put, List.setIfInBounds_toArray, List.set_cons_zero, List.set_cons_succ])
      generalize W1.alloc (.cells #[.int .i64 0, .int .i64 0, .int .i64 0, .int .i64 0, .int .i64 0, .int .i64 0] 57) = Xa at *
      obtain ⟨⟨q0, q1, q2, q3, q4, q5⟩, f0, f1, f2, f3, f4, f5⟩ := blk6 hga
      refine wpAnyH_ready (rs := [8]) (by kernel_rfl) (by simp) ?_
      refine AllReadyH.cons rfl (fun K hK => ?_) AllReadyH.nil
      go_simp
      obtain ⟨sx, sb⟩ := store6 hga (.int .i64 (bo k 0)) (.int .i64 (bo k 1)) (.int .i64 (bo k 2)) (.int .i64 (bo k 3)) (.int .i64 (bo k 4)) (.int .i64 (bo k 5))
      have hxz := sb.at hxa (by omega)
      have hbz := bba.trans (sb.below (by omega))
      refine hK.out _ _ (cell_of_block hxz rfl) (fun _ => ?_)
      clear hK K
      (try simp only [Act.put, List.setIfInBounds_toArray, List.set_cons_zero, List.set_cons_succ])
      refine wpAnyH_take (i := 9) (v := ?_) rfl (by kernel_rfl) (by kernel_rfl) (by kernel_rfl) (fun _ _ _ h => h) (Or.inl ⟨by rfl, ?_⟩) (by assumption) ?_
      rotate_left
      · intro w hSw
        (try dsimp only at hSw)
        (try (obtain ⟨_, _, _, _, _, _, _⟩ := hSw))
        (try (obtain ⟨_, _⟩ := hSw))
        go_simp
        (try with_reducible rfl)
      (try simp only [Act.put, List.setIfInBounds_toArray, List.set_cons_zero, List.set_cons_succ])
      refine wpAnyH_done (by kernel_rfl) ?_ _
      exact key _ _ _ _ _ _ hxz sx hbz
    · have hma : (W1.alloc (.cells #[.int .i64 0, .int .i64 0, .int .i64 0, .int .i64 0, .int .i64 0, .int .i64 0] 57)).heap[D.heap.size]? = _ := below_at (alloc_below W1 (.cells #[.int .i64 0, .int .i64 0, .int .i64 0, .int .i64 0, .int .i64 0, .int .i64 0] 57)) hm1
      have hla := kinds_look hma k
      unfold bv at hla
      have hxa := below_at (alloc_below W1 (.cells #[.int .i64 0, .int .i64 0, .int .i64 0, .int .i64 0, .int .i64 0, .int .i64 0] 57)) hx1
      have hga : (W1.alloc (.cells #[.int .i64 0, .int .i64 0, .int .i64 0, .int .i64 0, .int .i64 0, .int .i64 0] 57)).heap[W1.heap.size]? = _ := heap_new W1 (.cells #[.int .i64 0, .int .i64 0, .int .i64 0, .int .i64 0, .int .i64 0, .int .i64 0] 57)
      have bba := bb1.trans ((alloc_below W1 (.cells #[.int .i64 0, .int .i64 0, .int .i64 0, .int .i64 0, .int .i64 0, .int .i64 0] 57)).mono bb1.size)
      go_simp
      refine hK.out _ _ (cell_of_block hxa rfl) (fun _ => ?_)
      clear hK K
      (try simp only [Act.put, List.setIfInBounds_toArray, List.set_cons_zero, List.set_cons_succ])
      generalize W1.alloc (.cells #[.int .i64 0, .int .i64 0, .int .i64 0, .int .i64 0, .int .i64 0, .int .i64 0] 57) = Xa at *
      obtain ⟨⟨q0, q1, q2, q3, q4, q5⟩, f0, f1, f2, f3, f4, f5⟩ := blk6 hga
      refine wpAnyH_ready (rs := [3]) (by kernel_rfl) (by simp) ?_
      refine AllReadyH.cons rfl (fun K hK => ?_) AllReadyH.nil
      go_simp
      refine hK.out _ _ (cell_of_block hxa rfl) (fun _ => ?_)
      clear hK K
      (try simp only [Act.put, List.setIfInBounds_toArray, List.set_cons_zero, List.set_cons_succ])
      refine wpAnyH_take (i := 4) (v := ?_) rfl (by kernel_rfl) (by kernel_rfl) (by kernel_rfl) (fun _ _ _ h => h) (Or.inl ⟨by rfl, ?_⟩) (by assumption) ?_
      rotate_left
      · intro w hSw
        (try dsimp only at hSw)
        (try (obtain ⟨_, _, _, _, _, _, _⟩ := hSw))
        (try (obtain ⟨_, _⟩ := hSw))
        go_simp
        (try with_reducible rfl)
      (try simp only [Act.put, List.setIfInBounds_toArray, List.set_cons_zero, List.set_cons_succ])
      refine wpAnyH_take (i := 5) (v := ?_) rfl (by kernel_rfl) (by kernel_rfl) (by kernel_rfl) (fun _ _ _ h => h) (Or.inl ⟨by rfl, ?_⟩) (by assumption) ?_
      rotate_left
      · intro w hSw
        (try dsimp only at hSw)
        (try (obtain ⟨_, _, _, _, _, _, _⟩ := hSw))
        (try (obtain ⟨_, _⟩ := hSw))
        go_simp
        (try with_reducible rfl)
      (try simp only [Act.put, List.setIfInBounds_toArray, List.set_cons_zero, List.set_cons_succ])
      refine wpAnyH_take (i := 6) (v := ?_) rfl (by kernel_rfl) (by kernel_rfl) (by kernel_rfl) (fun _ _ _ h => h) (Or.inl ⟨by rfl, ?_⟩) (by assumption) ?_
      rotate_left
      · intro w hSw
        (try dsimp only at hSw)
        (try (obtain ⟨_, _, _, _, _, _, _⟩ := hSw))
        (try (obtain ⟨_, _⟩ := hSw))
        go_simp
        (try with_reducible rfl)
      (try simp only [Act.put, List.setIfInBounds_toArray, List.set_cons_zero, List.set_cons_succ])
      refine wpAnyH_ready (rs := [8]) (by kernel_rfl) (by simp) ?_
      refine AllReadyH.cons rfl (fun K hK => ?_) AllReadyH.nil
      go_simp
      obtain ⟨sx, sb⟩ := store6 hga (.int .i64 (bo k 0)) (.int .i64 (bo k 1)) (.int .i64 (bo k 2)) (.int .i64 (bo k 3)) (.int .i64 (bo k 4)) (.int .i64 (bo k 5))
      have hxz := sb.at hxa (by omega)
      have hbz := bba.trans (sb.below (by omega))
      refine hK.out _ _ (cell_of_block hxz rfl) (fun _ => ?_)
      clear hK K
      (try simp only [Act.put, List.setIfInBounds_toArray, List.set_cons_zero, List.set_cons_succ])
      refine wpAnyH_take (i := 9) (v := ?_) rfl (by kernel_rfl) (by kernel_rfl) (by kernel_rfl) (fun _ _ _ h => h) (Or.inl ⟨by rfl, ?_⟩) (by assumption) ?_
      rotate_left
      · intro w hSw
        (try dsimp only at hSw)
        (try (obtain ⟨_, _, _, _, _, _, _⟩ := hSw))
        (try (obtain ⟨_, _⟩ := hSw))
        go_simp
        (try with_reducible rfl)
      (try simp only [Act.put, List.setIfInBounds_toArray, List.set_cons_zero, List.set_cons_succ])
      refine wpAnyH_done (by kernel_rfl) ?_ _
      exact key _ _ _ _ _ _ hxz sx hbz
  · have hxa := below_at (alloc_below D (.cells #[.int .i64 0, .int .i64 0, .int .i64 0, .int .i64 0, .int .i64 0, .int .i64 0] 57)) hxD
    have hga : (D.alloc (.cells #[.int .i64 0, .int .i64 0, .int .i64 0, .int .i64 0, .int .i64 0, .int .i64 0] 57)).heap[D.heap.size]? = _ := heap_new D (.cells #[.int .i64 0, .int .i64 0, .int .i64 0, .int .i64 0, .int .i64 0, .int .i64 0] 57)
    have bba := hbD.trans ((alloc_below D (.cells #[.int .i64 0, .int .i64 0, .int .i64 0, .int .i64 0, .int .i64 0, .int .i64 0] 57)).mono hbD.size)
    go_simp
    refine hK.out _ _ (cell_of_block hxa rfl) (fun _ => ?_)
    clear hK K
    (try simp only [Act.put, List.setIfInBounds_toArray, List.set_cons_zero, List.set_cons_succ])
    have hzz : D.heap.size < (D.alloc (.cells #[.int .i64 0, .int .i64 0, .int .i64 0, .int .i64 0, .int .i64 0, .int .i64 0] 57)).heap.size := lt_of_heap hga
    refine wpAnyH_ready (rs := [0]) (by kernel_rfl) (by simp) ?_
    refine AllReadyH.cons rfl (fun K hK => ?_) AllReadyH.nil
    go_simp
    refine (kinds_any _).mono ?_
    rintro e W1 ⟨rfl, hm1, hb1⟩
    have hx1 := below_at hb1 hxa
    have hg1 := below_at hb1 hga
    have bb1 := bba.trans (hb1.mono bba.size)
    have hz1 := hb1.size
    rw [show (D.alloc (.cells #[.int .i64 0, .int .i64 0, .int .i64 0, .int .i64 0, .int .i64 0, .int .i64 0] 57)).heap.size = D.heap.size + 1 by simp] at hm1
    have hl1 := kinds_look hm1 k
    unfold bv at hl1
    obtain ⟨⟨q0, q1, q2, q3, q4, q5⟩, f0, f1, f2, f3, f4, f5⟩ := blk6 hg1
    go_simp
    refine hK.out _ _ (cell_of_block hx1 rfl) (fun _ => ?_)
    clear hK K
    (try simp only [Act.put, List.setIfInBounds_toArray, List.set_cons_zero, List.set_cons_succ])
    refine wpAnyH_ready (rs := [3]) (by kernel_rfl) (by simp) ?_
    refine AllReadyH.cons rfl (fun K hK => ?_) AllReadyH.nil
    go_simp
    refine hK.out _ _ (cell_of_block hx1 rfl) (fun _ => ?_)
    clear hK K
    (try simp only [Act.put, List.setIfInBounds_toArray, List.set_cons_zero, List.set_cons_succ])
    refine wpAnyH_take (i := 4) (v := ?_) rfl (by kernel_rfl) (by kernel_rfl) (by kernel_rfl) (fun _ _ _ h => h) (Or.inl ⟨by rfl, ?_⟩) (by assumption) ?_
    rotate_left
    · intro w hSw
      (try dsimp only at hSw)
      (try (obtain ⟨_, _, _, _, _, _, _⟩ := hSw))
      (try (obtain ⟨_, _⟩ := hSw))
      go_simp
      (try with_reducible rfl)
    (try simp only [Act.put, List.setIfInBounds_toArray, List.set_cons_zero, List.set_cons_succ])
    refine wpAnyH_take (i := 5) (v := ?_) rfl (by kernel_rfl) (by kernel_rfl) (by kernel_rfl) (fun _ _ _ h => h) (Or.inl ⟨by rfl, ?_⟩) (by assumption) ?_
    rotate_left
    · intro w hSw
      (try dsimp only at hSw)
      (try (obtain ⟨_, _, _, _, _, _, _⟩ := hSw))
      (try (obtain ⟨_, _⟩ := hSw))
      go_simp
      (try with_reducible rfl)
    (try simp only [Act.put, List.setIfInBounds_toArray, List.set_cons_zero, List.set_cons_succ])
    refine wpAnyH_take (i := 6) (v := ?_) rfl (by kernel_rfl) (by kernel_rfl) (by kernel_rfl) (fun _ _ _ h => h) (Or.inl ⟨by rfl, ?_⟩) (by assumption) ?_
    rotate_left
    · intro w hSw
      (try dsimp only at hSw)
      (try (obtain ⟨_, _, _, _, _, _, _⟩ := hSw))
      (try (obtain ⟨_, _⟩ := hSw))
      go_simp
      (try with_reducible rfl)
    (try simp only [Act.put, List.setIfInBounds_toArray, List.set_cons_zero, List.set_cons_succ])
    refine wpAnyH_ready (rs := [8]) (by kernel_rfl) (by simp) ?_
    refine AllReadyH.cons rfl (fun K hK => ?_) AllReadyH.nil
    go_simp
    obtain ⟨sx, sb⟩ := store6 hg1 (.int .i64 (bo k 0)) (.int .i64 (bo k 1)) (.int .i64 (bo k 2)) (.int .i64 (bo k 3)) (.int .i64 (bo k 4)) (.int .i64 (bo k 5))
    have hxz := sb.at hx1 (by omega)
    have hbz := bb1.trans (sb.below (by omega))
    refine hK.out _ _ (cell_of_block hxz rfl) (fun _ => ?_)
    clear hK K
    (try simp only [Act.put, List.setIfInBounds_toArray, List.set_cons_zero, List.set_cons_succ])
    refine wpAnyH_take (i := 9) (v := ?_) rfl (by kernel_rfl) (by kernel_rfl) (by kernel_rfl) (fun _ _ _ h => h) (Or.inl ⟨by rfl, ?_⟩) (by assumption) ?_
    rotate_left
    · intro w hSw
      (try dsimp only at hSw)
      (try (obtain ⟨_, _, _, _, _, _, _⟩ := hSw))
      (try (obtain ⟨_, _⟩ := hSw))
      go_simp
      (try with_reducible rfl)
    (try simp only [Act.put, List.setIfInBounds_toArray, List.set_cons_zero, List.set_cons_succ])
    refine wpAnyH_done (by kernel_rfl) ?_ _
    exact key _ _ _ _ _ _ hxz sx hbz
end Go.Proofs.Ytndeglamnnipoaa
