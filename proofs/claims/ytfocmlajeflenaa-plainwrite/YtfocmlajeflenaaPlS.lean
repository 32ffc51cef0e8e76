/-
  The parts: texts, and bytes of a fixed length.
-/
import Derived.Test.YtfocmlajeflenaaPlR
namespace Go.Proofs.Ytfocmlajeflenaa
set_option linter.unusedVariables false
set_option linter.unusedSimpArgs false
open Go.ChangeShapes Go.WideShapes Go.ChangeAt Go.RowKit Go.Deep

set_option maxRecDepth 100000 in
set_option maxHeartbeats 2000000 in
theorem text1_any (d : Dat) (hs : d.s.size ≤ 1048576) (w : World) : Calls Try.prog 71 #[dval d] w fun e w' => e = .returned (.int .i64 ((4 + d.s.size : Nat) : Int)) ∧ Below w.heap.size w w' := by
  obtain ⟨k0, n0, s0⟩ := d
  have hs' : (s0.size : Int) ≤ 1048576 := by simp only at hs; omega
  unfold dval
  simp only
  clear hs
  go_enter Try.func71, Try.ntmps71
  go_wp2_with fail
  go_ret
  exact ⟨by simp, alloc_below _ _⟩
set_option maxRecDepth 100000 in
set_option maxHeartbeats 2000000 in
theorem fix1_any (d : Dat) (B : Nat) (z : Int) (w : World) (hB : w.cell? ⟨B, 0, none⟩ = some (.int .i64 z)) : Calls Try.prog 76 #[dval d, .pointer (some ⟨B, 0, none⟩)] w fun e w' => e = .returned (.int .i64 z) ∧ Below w.heap.size w w' := by
  have c0 := cell_later (alloc_below w (.cells #[.int .i64 d.k, .int .i64 d.n, .string d.s] 48)) hB
  unfold dval
  go_enter Try.func76, Try.ntmps76
  go_wp2_with fail
  go_ret
  exact ⟨rfl, alloc_below _ _⟩
set_option maxRecDepth 100000 in
set_option maxHeartbeats 2000000 in
theorem fix2_any (d : Dat) (w : World) (base : Nat) (u : Value) (n : Nat) (xs : List Value) (hown : w.ownsRow base 5 1 u n xs) (hbase : base ≤ w.heap.size) (hn : n ≤ 1099511627776) (hs : d.s.size ≤ 1048576) :
    Calls Try.prog 77 #[u, dval d] w fun e w' => ∃ u', e = .returned u' ∧ w'.ownsRow base 5 1 u' (n + (tb d.s).length) (xs ++ c8 (tb d.s)) ∧ Below base w w' := by
  obtain ⟨k0, n0, s0⟩ := d
  unfold dval
  simp only at hs ⊢
  have ab := alloc_below w (.cells #[.int .i64 k0, .int .i64 n0, .string s0] 48 (0, 0))
  have HO : Hid ((w.alloc (.cells #[.int .i64 k0, .int .i64 n0, .string s0] 48 (0, 0))).ownsRow base 5 1 u n xs) := own_below hown ab
  obtain ⟨i0, hi, hz0, hz1, hz2⟩ := info_parts infoU8
  have hsz : base ≤ (w.alloc (.cells #[.int .i64 k0, .int .i64 n0, .string s0] 48 (0, 0))).heap.size := by simp; omega
  go_enter Try.func77, Try.ntmps77
  go_wp2_with (at_builtin; refine Lib.wpList_append_own_string _ rfl (.tmp 5) (.tmp 7) 27 9 rfl base 5 i0 Try.underlying27 Try.underlying9 hi hz0 hz1 hz2 _ _ _ rfl HO.out s0 rfl (by unfold maxLen; omega) (by omega) hsz ?_; intro v1 W2 hown1 hg1 _)
  go_ret
  rw [strCells_tb, ← tb_len] at hown1
  exact ⟨_, rfl, hown1, (ab.mono hbase).trans ((Below.refl base _).grown hg1 hsz (fun k hk => (HO.out.lt k hk).1))⟩
set_option maxRecDepth 100000 in
set_option maxHeartbeats 2000000 in
theorem text2_any (d : Dat) (w : World) (base : Nat) (u : Value) (n : Nat) (xs : List Value) (hown : w.ownsRow base 5 1 u n xs) (hbase : base ≤ w.heap.size) (hn : n ≤ 1099511627776) (hs : d.s.size ≤ 1048576) :
    Calls Try.prog 72 #[u, dval d] w fun e w' => ∃ u', e = .returned u' ∧ w'.ownsRow base 5 1 u' (n + (upk 8 4 d.s.size ++ tb d.s).length) (xs ++ c8 (upk 8 4 d.s.size ++ tb d.s)) ∧ Below base w w' := by
  obtain ⟨k0, n0, s0⟩ := d
  unfold dval
  simp only at hs ⊢
  have ab := alloc_below w (.cells #[.int .i64 k0, .int .i64 n0, .string s0] 48 (0, 0))
  have hx := heap_new w (.cells #[.int .i64 k0, .int .i64 n0, .string s0] 48 (0, 0))
  have HO : Hid ((w.alloc (.cells #[.int .i64 k0, .int .i64 n0, .string s0] 48 (0, 0))).ownsRow base 5 1 u n xs) := own_below hown ab
  have HU : Hid (∀ k, u.ownBlock = some k → k < w.heap.size) := fun k hk => (hown.lt k hk).2
  have HWR : Hid (IntKind.u64.wrap (s0.size : Int) = ((s0.size : Nat) : Int)) := by show _ = _; rw [IntKind.wrap_u64]; omega
  have hlt : s0.size < 2 ^ (8 * 4) := by
    have : (2 : Nat) ^ (8 * 4) = 4294967296 := by decide
    omega
  have LN := fun W => little_nat s0.size 4 (by omega) hlt W
  have HS : Hid (s0.size ≤ 1048576) := hs
  clear hlt hown hs
  obtain ⟨N, HN⟩ : ∃ N : Nat, Hid (s0.size = N) := ⟨_, rfl⟩
  rw [HN.out] at LN
  go_enter Try.func72, Try.ntmps72
  go_wp2_with fail
  generalize w.alloc (.cells #[.int .i64 k0, .int .i64 n0, .string s0] 48 (0, 0)) = W0 at *
  rw [HWR.out, HN.out]
  refine (LN W0).mono ?_
  rintro e W1 ⟨v, rfl, hv, hb1⟩
  obtain ⟨g, vc, rfl⟩ := own_some hv (by omega)
  have hx1 := below_at hb1 hx
  have hb01 := ab.trans (hb1.mono ab.size)
  have hsz := hb01.size
  have HO1 : Hid (W1.drew.ownsRow base 5 1 u n xs) := own_below (own_below HO.out hb1) (Below.refl _ _).drew
  have HV : Hid (Src W1.drew (some ⟨g, 0, none⟩) 4 vc (c8 (upk 8 4 N))) := (src_own hv).2.later (Below.refl _ _).drew
  have s0' : W1.drew.cell? ⟨w.heap.size, 2, none⟩ = some (.string s0) := cell_of_block (below_at (Below.refl _ W1).drew hx1) rfl
  have hbb : Below base w W1.drew := (hb01.mono hbase).trans (Below.refl _ _).drew
  clear hv hb1 HO LN hx hx1 ab hb01
  go_wp2_with fail
  refine wp_region_held_drew (S := fun W => W.cell? ⟨w.heap.size, 2, none⟩ = some (.string s0)) (by kernel_rfl) s0' (fun hHeld => ?_)
  clear hHeld
  have hbD : base ≤ W1.drew.heap.size := by simp; omega
  generalize W1.drew = D at *
  refine wpAnyH_take (i := 0) (v := ?_) rfl (by kernel_rfl) (by kernel_rfl) (by kernel_rfl) (fun _ _ _ h => h) (Or.inl ⟨by rfl, ?_⟩) (by assumption) ?_
  rotate_left
  · intro w hSw
    (try dsimp only at hSw)
    (try (obtain ⟨_, _, _, _, _, _, _⟩ := hSw))
    (try (obtain ⟨_, _⟩ := hSw))
    go_simp
    (try with_reducible rfl)
  (try simp only [Act.put, List.setIfInBounds_toArray, List.set_cons_zero, List.set_cons_succ])
  refine wpAnyH_take (i := 1) (v := ?_) rfl (by kernel_rfl) (by kernel_rfl) (by kernel_rfl) (fun _ _ _ h => h) (Or.inl ⟨by rfl, ?_⟩) (by assumption) ?_
  rotate_left
  · intro w hSw
    (try dsimp only at hSw)
    (try (obtain ⟨_, _, _, _, _, _, _⟩ := hSw))
    (try (obtain ⟨_, _⟩ := hSw))
    go_simp
    (try with_reducible rfl)
  (try simp only [Act.put, List.setIfInBounds_toArray, List.set_cons_zero, List.set_cons_succ])
  refine wpAnyH_take (i := 3) (v := ?_) rfl (by kernel_rfl) (by kernel_rfl) (by kernel_rfl) (fun _ _ _ h => h) (Or.inl ⟨by rfl, ?_⟩) (by assumption) ?_
  rotate_left
  · intro w hSw
    (try dsimp only at hSw)
    (try (obtain ⟨_, _, _, _, _, _, _⟩ := hSw))
    (try (obtain ⟨_, _⟩ := hSw))
    go_simp
    (try with_reducible rfl)
  (try simp only [Act.put, List.setIfInBounds_toArray, List.set_cons_zero, List.set_cons_succ])
  refine wpAnyH_take (i := 4) (v := ?_) rfl (by kernel_rfl) (by kernel_rfl) (by kernel_rfl) (fun _ _ _ h => h) (Or.inl ⟨by rfl, ?_⟩) (by assumption) ?_
  rotate_left
  · intro w hSw
    (try dsimp only at hSw)
    (try (obtain ⟨_, _, _, _, _, _, _⟩ := hSw))
    (try (obtain ⟨_, _⟩ := hSw))
    go_simp
    (try with_reducible rfl)
  (try simp only [Act.put, List.setIfInBounds_toArray, List.set_cons_zero, List.set_cons_succ])
  obtain ⟨v2, W2, hr2, ho2, hg2, hb2, hf2⟩ := run_app HO1.out HV.out hbD (by omega)
  have hbs : w.heap.size < D.heap.size := World.block_lt_of_cell? _ _ s0'
  have s2 : W2.cell? ⟨w.heap.size, 2, none⟩ = some (.string s0) := hg2.cell s0' (by intro e; have := HU.out _ e.symm; simp at this)
  obtain ⟨v3, W3, hr3, ho3, hg3, hb3⟩ := run_app_str ho2 s0 (Nat.le_trans hbD hb2.size) (by have := HS.out; omega)
  have s3 : W3.cell? ⟨w.heap.size, 2, none⟩ = some (.string s0) := hg3.cell s2 (by
    intro e
    rcases hf2 _ e.symm with h | h
    · have := HU.out _ h; simp at this
    · simp at h; omega)
  have HF : Hid (∃ u', v3 = u' ∧ W3.ownsRow base 5 1 u' (n + (upk 8 4 s0.size ++ tb s0).length) (xs ++ c8 (upk 8 4 s0.size ++ tb s0)) ∧ Below base w W3) := by
    refine ⟨v3, rfl, ?_, hbb.trans (hb2.trans hb3)⟩
    rw [List.length_append, upk_len, tb_len, ← Nat.add_assoc, c8_append, ← List.append_assoc]
    rw [HN.out] at ho3 ⊢
    exact ho3
  clear ho2 hg2 hb2 hf2 hbs ho3 hg3 hb3 s0'
  refine wpAnyH_ready (rs := [2]) (by kernel_rfl) (by simp) ?_
  refine AllReadyH.cons rfl (fun K hK => ?_) AllReadyH.nil
  refine ready_append2 rfl (.tmp 15) (.tmp 16) 27 27 rfl _ _ _ rfl rfl hr2 ?_
  refine hK.out _ _ s2 (fun _ => ?_)
  clear hK K
  (try simp only [Act.put, List.setIfInBounds_toArray, List.set_cons_zero, List.set_cons_succ])
  refine wpAnyH_ready (rs := [5]) (by kernel_rfl) (by simp) ?_
  refine AllReadyH.cons rfl (fun K hK => ?_) AllReadyH.nil
  refine ready_append2 rfl (.tmp 17) (.tmp 19) 27 9 rfl _ _ _ rfl rfl hr3 ?_
  refine hK.out _ _ s3 (fun _ => ?_)
  clear hK K
  (try simp only [Act.put, List.setIfInBounds_toArray, List.set_cons_zero, List.set_cons_succ])
  refine wpAnyH_ready (rs := [6]) (by kernel_rfl) (by simp) ?_
  refine AllReadyH.cons rfl (fun K hK => ?_) AllReadyH.nil
  go_simp
  refine hK.out _ _ s3 (fun _ => ?_)
  clear hK K
  refine wpAnyH_done (by kernel_rfl) ?_ _
  go_wp2_with fail
  go_ret
  obtain ⟨u', rfl, h1, h2⟩ := HF.out
  exact ⟨_, rfl, h1, h2⟩
end Go.Proofs.Ytfocmlajeflenaa
