/-
  The reference's bytes of a datum.
-/
import Derived.Test.YtfocmlajeflenaaPlU
import Derived.WalkSmall
namespace Go.Proofs.Ytfocmlajeflenaa
set_option linter.unusedVariables false
set_option linter.unusedSimpArgs false
open Go.ChangeShapes Go.WideShapes Go.ChangeAt Go.RowKit Go.Deep

theorem u64_toNat (n : Int) : ((n % 18446744073709551616).toNat : Int) = n % 18446744073709551616 := Int.toNat_of_nonneg (Int.emod_nonneg _ (by decide))
theorem shr_byte (n : Int) (i : Nat) (hi : i < 8) : n / 2 ^ (8 * i) % 256 = (((n % 18446744073709551616).toNat / 2 ^ (8 * i) % 256 : Nat) : Int) := by
  rw [Int.natCast_emod, Int.natCast_ediv, u64_toNat]
  have hh : i = 0 ∨ i = 1 ∨ i = 2 ∨ i = 3 ∨ i = 4 ∨ i = 5 ∨ i = 6 ∨ i = 7 := by omega
  rcases hh with rfl | rfl | rfl | rfl | rfl | rfl | rfl | rfl <;> simp <;> omega
theorem upk4_mod (n : Int) : upk 8 4 (n % 18446744073709551616).toNat = upk 8 4 (n % 4294967296).toNat := by
  have e : (n % 4294967296).toNat = (n % 18446744073709551616).toNat % 4294967296 := by omega
  rw [e]
  generalize (n % 18446744073709551616).toNat = M
  simp only [upk]
  have h : (2 : Nat) ^ 8 = 256 := by decide
  rw [h]
  refine List.cons_eq_cons.2 ⟨by omega, List.cons_eq_cons.2 ⟨by omega, List.cons_eq_cons.2 ⟨by omega, List.cons_eq_cons.2 ⟨by omega, rfl⟩⟩⟩⟩
theorem bits_store {wr : World} {B g nb i M : Nat} {u : Value} (hown : wr.ownsRow B 5 1 (.slice (some ⟨g, 0, none⟩) nb nb) nb (c8 (upk 8 i M ++ List.replicate (nb - i) 0))) (hi : i < nb) (hu : u = .int .u8 ((M / 2 ^ (8 * i) % 256 : Nat) : Int)) :
    (wr.setCell ⟨g, i, none⟩ u).ownsRow B 5 1 (.slice (some ⟨g, 0, none⟩) nb nb) nb (c8 (upk 8 (i + 1) M ++ List.replicate (nb - (i + 1)) 0)) := by
  have e := (hown.stored i u).1
  subst hu
  have e2 : (c8 (upk 8 i M ++ List.replicate (nb - i) 0)).set i (.int .u8 ((M / 2 ^ (8 * i) % 256 : Nat) : Int)) = c8 (upk 8 (i + 1) M ++ List.replicate (nb - (i + 1)) 0) := by
    unfold c8
    rw [← List.map_set (f := fun b : Nat => Value.int .u8 (b : Int)), show nb - i = (nb - (i + 1)) + 1 from by omega]
    congr 1
    rw [List.set_append_right _ _ (by rw [upk_len]; exact Nat.le_refl _), upk_len, Nat.sub_self, List.replicate_succ, List.set_cons_zero, upk_snoc]
    simp
  rw [e2] at e
  exact e

set_option maxRecDepth 100000 in
set_option maxHeartbeats 2000000 in
theorem rbits_any (n : Int) (nb : Nat) (hnb : nb ≤ 8) (h1 : 1 ≤ nb) (w : World) :
    Calls Try.prog 38 #[.int .i64 n, .int .i64 nb] w fun e w' => ∃ g c, e = .returned (.slice (some ⟨g, 0, none⟩) nb c) ∧ w'.ownsRow w.heap.size 5 1 (.slice (some ⟨g, 0, none⟩) nb c) nb (c8 (upk 8 nb (n % 18446744073709551616).toNat)) ∧ Below w.heap.size w w' := by
  obtain ⟨i0, hi, hz0, hz1, hz2⟩ := info_parts infoU8
  have hnb' : (nb : Int) ≤ 8 := by omega
  have HB : Hid (∀ i, i < 8 → n / 2 ^ (8 * i) % 256 = (((n % 18446744073709551616).toNat / 2 ^ (8 * i) % 256 : Nat) : Int)) := shr_byte n
  obtain ⟨M, HM⟩ : ∃ M : Nat, Hid ((n % 18446744073709551616).toNat = M) := ⟨_, rfl⟩
  rw [HM.out] at HB
  go_enter Try.func38, Try.ntmps38
  go_wp2_with (at_make; refine wpList_make_full _ rfl _ _ 27 rfl w.heap.size 5 i0 (.int .u8 0) 1 Try.underlying27 hi hz0 hz1 _ _ _ _ nb rfl rfl rfl rfl (by rw [hz2]; omega) (by unfold maxLen; omega) (Nat.le_refl _) ?_; intro w1 hown1 hgrow1)
  have hgb : Below w.heap.size w w1 := (Below.refl _ w).grown hgrow1 (Nat.le_refl _) (fun _ e => by cases e)
  clear hgrow1
  rw [made_zero] at hown1
  go_loopw [6] (fun iv wr => ∃ i : Nat, i ≤ nb ∧ iv = .int .i64 (i : Int) ∧ wr.ownsRow w.heap.size 5 1 (.slice (some ⟨w.heap.size, 0, none⟩) nb nb) nb (c8 (upk 8 i M ++ List.replicate (nb - i) 0)) ∧ Below w.heap.size w wr) (fun iv _ => nb - (intOf iv).toNat)
  case atStart => exact ⟨0, Nat.zero_le _, rfl, by simpa [upk, c8] using hown1, hgb⟩
  case round =>
    obtain ⟨i, hi', rfl, hown, hb⟩ := hrel
    clear hown1 hgb
    by_cases hlt : i < nb
    · have hlt' : (i : Int) < (nb : Int) := by omega
      have hcj : wr.cell? ⟨w.heap.size, i, none⟩ = some (.int .u8 0) := by
        rw [hown.cellAt i (by omega)]
        unfold c8
        rw [List.map_append, List.getElem?_append_right (by rw [List.length_map, upk_len]; exact Nat.le_refl _), List.length_map, upk_len, Nat.sub_self]
        simp only [List.map_replicate, List.getElem?_replicate]
        rw [if_pos (by omega)]
        rfl
      have hfj := hown.frozenAt i
      have HST : Hid (∀ u, u = .int .u8 ((M / 2 ^ (8 * i) % 256 : Nat) : Int) → (wr.setCell ⟨w.heap.size, i, none⟩ u).ownsRow w.heap.size 5 1 (.slice (some ⟨w.heap.size, 0, none⟩) nb nb) nb (c8 (upk 8 (i + 1) M ++ List.replicate (nb - (i + 1)) 0))) := fun u hu => bits_store hown hlt hu
      have HB2 : Hid (∀ u, Below w.heap.size w (wr.setCell ⟨w.heap.size, i, none⟩ u)) := fun u => hb.setCell (p := ⟨w.heap.size, i, none⟩) (Nat.le_refl _) u
      clear hown
      go_wp2_with fail
      go_roundw
      case rel => exact ⟨i + 1, by omega, by go_num, HST.out _ (by rw [← HB.out i (by omega)]), HB2.out _⟩
      case measure => simp [intOf]; omega
    · have hlt' : (nb : Int) ≤ (i : Int) := by omega
      have HO : Hid (wr.ownsRow w.heap.size 5 1 (.slice (some ⟨w.heap.size, 0, none⟩) nb nb) nb (c8 (upk 8 nb M))) := by
        have hil : i = nb := by omega
        rw [hil, Nat.sub_self] at hown
        simp only [List.replicate_zero, List.append_nil] at hown
        exact hown
      clear hown
      go_wp2_with fail
      go_ret
      exact ⟨_, _, rfl, by rw [HM.out]; exact HO.out, hb⟩

set_option maxRecDepth 100000 in
set_option maxHeartbeats 4000000 in
theorem rbytes_any (k0 n0 : Int) (s0 : ByteArray) (hs : s0.size ≤ 1048576) (w : World) :
    Calls Try.prog 24 #[.agg #[.int .i64 k0, .int .i64 n0, .string s0]] w fun e w' => ∃ ad n c, e = .returned (.slice ad n c) ∧ n = (db ⟨k0, n0, s0⟩).length ∧ Src w' ad n c (c8 (db ⟨k0, n0, s0⟩)) ∧ Below w.heap.size w w' := by
  by_cases hk : k0 = 1
  · subst hk
    have HE : Hid (db ⟨1, n0, s0⟩ = upk 8 4 (n0 % 18446744073709551616).toNat) := by show _ = _; simp [db]; rw [upk4_mod]
    have R := rbits_any n0 4 (by omega) (by omega) (w.alloc (.cells #[.int .i64 1, .int .i64 n0, .string s0] 48 (0, 0)))
    have ab := alloc_below w (.cells #[.int .i64 1, .int .i64 n0, .string s0] 48 (0, 0))
    go_enter Try.func24, Try.ntmps24
    go_wp2_with fail
    refine R.mono ?_
    rintro e W1 ⟨g, c, rfl, hown, hb1⟩
    go_wp2_with fail
    go_ret
    exact ⟨_, _, _, rfl, by rw [HE.out, upk_len], by rw [HE.out]; exact (src_own hown).2, ab.trans (hb1.mono ab.size)⟩
  by_cases hk : k0 = 4
  · subst hk
    have HE : Hid (db ⟨4, n0, s0⟩ = upk 8 4 (n0 % 18446744073709551616).toNat) := by show _ = _; simp [db]; rw [upk4_mod]
    have R := rbits_any n0 4 (by omega) (by omega) (w.alloc (.cells #[.int .i64 4, .int .i64 n0, .string s0] 48 (0, 0)))
    have ab := alloc_below w (.cells #[.int .i64 4, .int .i64 n0, .string s0] 48 (0, 0))
    go_enter Try.func24, Try.ntmps24
    go_wp2_with fail
    refine R.mono ?_
    rintro e W1 ⟨g, c, rfl, hown, hb1⟩
    go_wp2_with fail
    go_ret
    exact ⟨_, _, _, rfl, by rw [HE.out, upk_len], by rw [HE.out]; exact (src_own hown).2, ab.trans (hb1.mono ab.size)⟩
  by_cases hk : k0 = 2
  · subst hk
    have HE : Hid (db ⟨2, n0, s0⟩ = upk 8 8 (n0 % 18446744073709551616).toNat) := by show _ = _; simp [db]
    have R := rbits_any n0 8 (by omega) (by omega) (w.alloc (.cells #[.int .i64 2, .int .i64 n0, .string s0] 48 (0, 0)))
    have ab := alloc_below w (.cells #[.int .i64 2, .int .i64 n0, .string s0] 48 (0, 0))
    go_enter Try.func24, Try.ntmps24
    go_wp2_with fail
    refine R.mono ?_
    rintro e W1 ⟨g, c, rfl, hown, hb1⟩
    go_wp2_with fail
    go_ret
    exact ⟨_, _, _, rfl, by rw [HE.out, upk_len], by rw [HE.out]; exact (src_own hown).2, ab.trans (hb1.mono ab.size)⟩
  by_cases hk : k0 = 5
  · subst hk
    have HE : Hid (db ⟨5, n0, s0⟩ = upk 8 8 (n0 % 18446744073709551616).toNat) := by show _ = _; simp [db]
    have R := rbits_any n0 8 (by omega) (by omega) (w.alloc (.cells #[.int .i64 5, .int .i64 n0, .string s0] 48 (0, 0)))
    have ab := alloc_below w (.cells #[.int .i64 5, .int .i64 n0, .string s0] 48 (0, 0))
    go_enter Try.func24, Try.ntmps24
    go_wp2_with fail
    refine R.mono ?_
    rintro e W1 ⟨g, c, rfl, hown, hb1⟩
    go_wp2_with fail
    go_ret
    exact ⟨_, _, _, rfl, by rw [HE.out, upk_len], by rw [HE.out]; exact (src_own hown).2, ab.trans (hb1.mono ab.size)⟩
  by_cases hk : k0 = 6
  · subst hk
    have HE : Hid (db ⟨6, n0, s0⟩ = upk 8 4 s0.size ++ tb s0) := by show _ = _; simp [db]
    have ab := alloc_below w (.cells #[.int .i64 6, .int .i64 n0, .string s0] 48 (0, 0))
    have hx := heap_new w (.cells #[.int .i64 6, .int .i64 n0, .string s0] 48 (0, 0))
    have s0' : (w.alloc (.cells #[.int .i64 6, .int .i64 n0, .string s0] 48 (0, 0))).drew.cell? ⟨w.heap.size, 2, none⟩ = some (.string s0) := cell_of_block (below_at (Below.refl _ (w.alloc (.cells #[.int .i64 6, .int .i64 n0, .string s0] 48 (0, 0)))).drew hx) rfl
    have b1 := ab.trans (Below.refl _ (w.alloc (.cells #[.int .i64 6, .int .i64 n0, .string s0] 48 (0, 0)))).drew
    have HS : Hid (s0.size ≤ 1048576) := hs
    go_enter Try.func24, Try.ntmps24
    go_wp2_with fail
    refine wp_region_held_drew (S := fun W => W.cell? ⟨w.heap.size, 2, none⟩ = some (.string s0)) (by kernel_rfl) s0' (fun hHeld => ?_)
    clear hHeld hs hx ab
    generalize (w.alloc (.cells #[.int .i64 6, .int .i64 n0, .string s0] 48 (0, 0))).drew = D at *
    refine wpAnyH_take (i := 0) (v := ?_) rfl (by kernel_rfl) (by kernel_rfl) (by kernel_rfl) (fun _ _ _ h => h) (Or.inl ⟨by rfl, ?_⟩) (by assumption) ?_
    rotate_left
    · intro w hSw
      (try dsimp only at hSw)
      (try (obtain ⟨_, _, _, _, _, _, _⟩ := hSw))
      (try (obtain ⟨_, _⟩ := hSw))
      go_simp
      (try with_reducible rfl)
    (try simp only [Act.put, List.setIfInBounds_toArray, List.set_cons_zero, List.set_cons_succ])
    refine wpAnyH_take (i := 1) (v := ?_) rfl (by kernel_rfl) (by kernel_rfl) (by kernel_rfl) (fun _ _ _ h => h) (Or.inl ⟨by rfl, ?_⟩) (by assumption) ?_
    rotate_left
    · intro w hSw
      (try dsimp only at hSw)
      (try (obtain ⟨_, _, _, _, _, _, _⟩ := hSw))
      (try (obtain ⟨_, _⟩ := hSw))
      go_simp
      (try with_reducible rfl)
    (try simp only [Act.put, List.setIfInBounds_toArray, List.set_cons_zero, List.set_cons_succ])
    refine wpAnyH_take (i := 2) (v := ?_) rfl (by kernel_rfl) (by kernel_rfl) (by kernel_rfl) (fun _ _ _ h => h) (Or.inl ⟨by rfl, ?_⟩) (by assumption) ?_
    rotate_left
    · intro w hSw
      (try dsimp only at hSw)
      (try (obtain ⟨_, _, _, _, _, _, _⟩ := hSw))
      (try (obtain ⟨_, _⟩ := hSw))
      go_simp
      (try with_reducible rfl)
    (try simp only [Act.put, List.setIfInBounds_toArray, List.set_cons_zero, List.set_cons_succ])
    refine wpAnyH_take (i := 4) (v := ?_) rfl (by kernel_rfl) (by kernel_rfl) (by kernel_rfl) (fun _ _ _ h => h) (Or.inl ⟨by rfl, ?_⟩) (by assumption) ?_
    rotate_left
    · intro w hSw
      (try dsimp only at hSw)
      (try (obtain ⟨_, _, _, _, _, _, _⟩ := hSw))
      (try (obtain ⟨_, _⟩ := hSw))
      go_simp
      (try with_reducible rfl)
    (try simp only [Act.put, List.setIfInBounds_toArray, List.set_cons_zero, List.set_cons_succ])
    refine wpAnyH_take (i := 5) (v := ?_) rfl (by kernel_rfl) (by kernel_rfl) (by kernel_rfl) (fun _ _ _ h => h) (Or.inl ⟨by rfl, ?_⟩) (by assumption) ?_
    rotate_left
    · intro w hSw
      (try dsimp only at hSw)
      (try (obtain ⟨_, _, _, _, _, _, _⟩ := hSw))
      (try (obtain ⟨_, _⟩ := hSw))
      go_simp
      (try with_reducible rfl)
    (try simp only [Act.put, List.setIfInBounds_toArray, List.set_cons_zero, List.set_cons_succ])
    have R := rbits_any (s0.size : Int) 4 (by omega) (by omega) D
    have he : ((s0.size : Int) % 18446744073709551616).toNat = s0.size := by have := HS.out; omega
    rw [he] at R
    have hbs : w.heap.size < D.heap.size := World.block_lt_of_cell? _ _ s0'
    refine wpAnyH_ready (rs := [3]) (by kernel_rfl) (by simp) ?_
    refine AllReadyH.cons rfl (fun K hK => ?_) AllReadyH.nil
    go_simp
    refine R.mono ?_
    rintro e W1 ⟨g, c, rfl, hown, hb1⟩
    have s1 := cell_later hb1 s0'
    obtain ⟨v3, W3, hr3, ho3, hg3, hb3⟩ := run_app_str hown s0 hb1.size (by have := HS.out; omega)
    have s3 : W3.cell? ⟨w.heap.size, 2, none⟩ = some (.string s0) := hg3.cell s1 (by
      intro e
      have := (hown.lt _ e.symm).1
      simp at this
      omega)
    obtain ⟨a3, c3, rfl⟩ := own_sl ho3
    have HF : Hid (∃ ad n c, (Value.slice a3 (4 + s0.size) c3) = (.slice ad n c) ∧ n = (db ⟨6, n0, s0⟩).length ∧ Src W3 ad n c (c8 (db ⟨6, n0, s0⟩)) ∧ Below w.heap.size w W3) := by
      refine ⟨a3, _, c3, rfl, by rw [HE.out, List.length_append, upk_len, tb_len], ?_, b1.trans ((hb1.trans hb3).mono b1.size)⟩
      rw [HE.out, c8_append]
      exact (src_own ho3).2
    clear hown hg3 ho3 R he hb1 hb3 s0' b1
    go_simp
    refine hK.out _ _ s1 (fun _ => ?_)
    clear hK K
    (try simp only [Act.put, List.setIfInBounds_toArray, List.set_cons_zero, List.set_cons_succ])
    refine wpAnyH_ready (rs := [6]) (by kernel_rfl) (by simp) ?_
    refine AllReadyH.cons rfl (fun K hK => ?_) AllReadyH.nil
    refine ready_append2 rfl (.tmp 22) (.tmp 24) 27 9 rfl _ _ _ rfl rfl hr3 ?_
    refine hK.out _ _ s3 (fun _ => ?_)
    clear hK K
    (try simp only [Act.put, List.setIfInBounds_toArray, List.set_cons_zero, List.set_cons_succ])
    refine wpAnyH_ready (rs := [7]) (by kernel_rfl) (by simp) ?_
    refine AllReadyH.cons rfl (fun K hK => ?_) AllReadyH.nil
    go_simp
    refine hK.out _ _ s3 (fun _ => ?_)
    clear hK K
    refine wpAnyH_done (by kernel_rfl) ?_ _
    go_wp2_with fail
    go_ret
    obtain ⟨ad, n, c, h1, h2, h3, h4⟩ := HF.out
    exact ⟨ad, n, c, congrArg Ending.returned h1, h2, h3, h4⟩
  · have HE : Hid (db ⟨k0, n0, s0⟩ = tb s0) := by show _ = _; simp [db, *]
    have e1 : decide (k0 = 1) = false := by simp; assumption
    obtain ⟨c, W2, hcv, hsrc, hb2⟩ := conv_text (w.alloc (.cells #[.int .i64 k0, .int .i64 n0, .string s0] 48 (0, 0))) s0
    have ab := alloc_below w (.cells #[.int .i64 k0, .int .i64 n0, .string s0] 48 (0, 0))
    go_enter Try.func24, Try.ntmps24
    go_wp2_with fail
    go_ret
    exact ⟨_, _, _, rfl, by rw [HE.out, tb_len], by rw [HE.out]; simpa [tb] using hsrc, ab.trans (hb2.mono ab.size)⟩
end Go.Proofs.Ytfocmlajeflenaa
