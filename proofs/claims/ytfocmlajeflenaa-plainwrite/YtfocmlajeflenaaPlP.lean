/-
  The parts: numbers, texts, bytes of a fixed length.
-/
import Derived.Test.YtfocmlajeflenaaPlN
import Derived.Test.YtfocmlajeflenaaBox
import Derived.Deep.RegionHeld3
namespace Go.Proofs.Ytfocmlajeflenaa
set_option linter.unusedVariables false
set_option linter.unusedSimpArgs false
open Go.ChangeShapes Go.WideShapes Go.ChangeAt Go.RowKit Go.Deep

set_option maxRecDepth 100000 in
set_option maxHeartbeats 1000000 in
theorem num1_any (d : Dat) (B nb : Nat) (w : World) (hB : w.cell? ⟨B, 0, none⟩ = some (.int .i64 nb)) : Calls Try.prog 64 #[dval d, .pointer (some ⟨B, 0, none⟩)] w fun e w' => e = .returned (.int .i64 nb) ∧ Below w.heap.size w w' := by
  have c0 := cell_later (alloc_below w (.cells #[.int .i64 d.k, .int .i64 d.n, .string d.s] 48)) hB
  unfold dval
  go_enter Try.func64, Try.ntmps64
  go_wp2_with fail
  go_ret
  exact ⟨rfl, alloc_below _ _⟩

set_option maxRecDepth 100000 in
set_option maxHeartbeats 2000000 in
theorem num2_4 (d : Dat) (B B' : Nat) (w : World) (hB : w.cell? ⟨B, 0, none⟩ = some (.int .i64 32)) (hB' : w.cell? ⟨B', 0, none⟩ = some (.int .i64 4)) (base : Nat) (u : Value) (n : Nat) (xs : List Value) (hown : w.ownsRow base 5 1 u n xs) (hbase : base ≤ w.heap.size) (hn : n ≤ 1099511627776) :
    Calls Try.prog 65 #[u, dval d, .pointer (some ⟨B, 0, none⟩), .pointer (some ⟨B', 0, none⟩)] w fun e w' => ∃ u', e = .returned u' ∧ w'.ownsRow base 5 1 u' (n + 4) (xs ++ c8 (upk 8 4 (d.n % 4294967296).toNat)) ∧ Below base w w' := by
  obtain ⟨k0, n0, s0⟩ := d
  unfold dval
  simp only
  have ab := alloc_below w (.cells #[.int .i64 k0, .int .i64 n0, .string s0] 48)
  have c0 := cell_later ab hB
  have c1 := cell_later ab hB'
  have hx := heap_new w (.cells #[.int .i64 k0, .int .i64 n0, .string s0] 48 (0, 0))
  have HO : Hid ((w.alloc (.cells #[.int .i64 k0, .int .i64 n0, .string s0] 48)).ownsRow base 5 1 u n xs) := own_below hown ab
  obtain ⟨i0, hi, hz0, hz1, hz2⟩ := info_parts infoU8
  go_enter Try.func65, Try.ntmps65
  go_wp2_with fail
  generalize w.alloc (.cells #[.int .i64 k0, .int .i64 n0, .string s0] 48) = W0 at *
  have HF : Hid (∀ W, Below W0.heap.size W0 W → W.cell? ⟨B, 0, none⟩ = some (.int .i64 32) ∧ W.cell? ⟨B', 0, none⟩ = some (.int .i64 4) ∧ W.cell? ⟨w.heap.size, 1, none⟩ = some (.int .i64 n0)) := fun W h => ⟨cell_later h c0, cell_later h c1, cell_of_block (below_at h hx) rfl⟩
  have hS0 : Below W0.heap.size W0 W0.drew := (Below.refl _ _).drew
  clear c0 c1 hx hown
  refine wp_region_held_drew (S := fun W => Below W0.heap.size W0 W) (by kernel_rfl) hS0 (fun hHeld => ?_)
  clear hHeld
  generalize W0.drew = D at *
  refine wpAnyH_take (i := 0) (v := ?_) rfl (by kernel_rfl) (by kernel_rfl) (by kernel_rfl) (fun _ _ _ h => h) (Or.inl ⟨by rfl, ?_⟩) (by assumption) ?_
  rotate_left
  · intro w hSw
    have hSx := HF.out w hSw
    (try (obtain ⟨_, _, _, _, _, _, _, _⟩ := hSx))
    (try (obtain ⟨_, _, _, _⟩ := hSx))
    (try (obtain ⟨_, _, _⟩ := hSx))
    (try (obtain ⟨_, _⟩ := hSx))
    go_simp
    (try with_reducible rfl)
  (try simp only [Act.put, List.setIfInBounds_toArray, List.set_cons_zero, List.set_cons_succ])
  refine wpAnyH_take (i := 1) (v := ?_) rfl (by kernel_rfl) (by kernel_rfl) (by kernel_rfl) (fun _ _ _ h => h) (Or.inl ⟨by rfl, ?_⟩) (by assumption) ?_
  rotate_left
  · intro w hSw
    have hSx := HF.out w hSw
    (try (obtain ⟨_, _, _, _, _, _, _, _⟩ := hSx))
    (try (obtain ⟨_, _, _, _⟩ := hSx))
    (try (obtain ⟨_, _, _⟩ := hSx))
    (try (obtain ⟨_, _⟩ := hSx))
    go_simp
    (try with_reducible rfl)
  (try simp only [Act.put, List.setIfInBounds_toArray, List.set_cons_zero, List.set_cons_succ])
  refine wpAnyH_take (i := 2) (v := ?_) rfl (by kernel_rfl) (by kernel_rfl) (by kernel_rfl) (fun _ _ _ h => h) (Or.inl ⟨by rfl, ?_⟩) (by assumption) ?_
  rotate_left
  · intro w hSw
    have hSx := HF.out w hSw
    (try (obtain ⟨_, _, _, _, _, _, _, _⟩ := hSx))
    (try (obtain ⟨_, _, _, _⟩ := hSx))
    (try (obtain ⟨_, _, _⟩ := hSx))
    (try (obtain ⟨_, _⟩ := hSx))
    go_simp
    (try with_reducible rfl)
  (try simp only [Act.put, List.setIfInBounds_toArray, List.set_cons_zero, List.set_cons_succ])
  refine wpAnyH_take (i := 3) (v := ?_) rfl (by kernel_rfl) (by kernel_rfl) (by kernel_rfl) (fun _ _ _ h => h) (Or.inl ⟨by rfl, ?_⟩) (by assumption) ?_
  rotate_left
  · intro w hSw
    have hSx := HF.out w hSw
    (try (obtain ⟨_, _, _, _, _, _, _, _⟩ := hSx))
    (try (obtain ⟨_, _, _, _⟩ := hSx))
    (try (obtain ⟨_, _, _⟩ := hSx))
    (try (obtain ⟨_, _⟩ := hSx))
    go_simp
    (try with_reducible rfl)
  (try simp only [Act.put, List.setIfInBounds_toArray, List.set_cons_zero, List.set_cons_succ])
  refine wpAnyH_take (i := 4) (v := ?_) rfl (by kernel_rfl) (by kernel_rfl) (by kernel_rfl) (fun _ _ _ h => h) (Or.inl ⟨by rfl, ?_⟩) (by assumption) ?_
  rotate_left
  · intro w hSw
    have hSx := HF.out w hSw
    (try (obtain ⟨_, _, _, _, _, _, _, _⟩ := hSx))
    (try (obtain ⟨_, _, _, _⟩ := hSx))
    (try (obtain ⟨_, _, _⟩ := hSx))
    (try (obtain ⟨_, _⟩ := hSx))
    go_simp
    (try with_reducible rfl)
  (try simp only [Act.put, List.setIfInBounds_toArray, List.set_cons_zero, List.set_cons_succ])
  refine wpAnyH_take (i := 5) (v := ?_) rfl (by kernel_rfl) (by kernel_rfl) (by kernel_rfl) (fun _ _ _ h => h) (Or.inl ⟨by rfl, ?_⟩) (by assumption) ?_
  rotate_left
  · intro w hSw
    have hSx := HF.out w hSw
    (try (obtain ⟨_, _, _, _, _, _, _, _⟩ := hSx))
    (try (obtain ⟨_, _, _, _⟩ := hSx))
    (try (obtain ⟨_, _, _⟩ := hSx))
    (try (obtain ⟨_, _⟩ := hSx))
    go_simp
    (try with_reducible rfl)
  (try simp only [Act.put, List.setIfInBounds_toArray, List.set_cons_zero, List.set_cons_succ])
  refine wpAnyH_take (i := 6) (v := ?_) rfl (by kernel_rfl) (by kernel_rfl) (by kernel_rfl) (fun _ _ _ h => h) (Or.inl ⟨by rfl, ?_⟩) (by assumption) ?_
  rotate_left
  · intro w hSw
    have hSx := HF.out w hSw
    (try (obtain ⟨_, _, _, _, _, _, _, _⟩ := hSx))
    (try (obtain ⟨_, _, _, _⟩ := hSx))
    (try (obtain ⟨_, _, _⟩ := hSx))
    (try (obtain ⟨_, _⟩ := hSx))
    go_simp
    (try with_reducible rfl)
  (try simp only [Act.put, List.setIfInBounds_toArray, List.set_cons_zero, List.set_cons_succ])
  refine wpAnyH_take (i := 7) (v := ?_) rfl (by kernel_rfl) (by kernel_rfl) (by kernel_rfl) (fun _ _ _ h => h) (Or.inl ⟨by rfl, ?_⟩) (by assumption) ?_
  rotate_left
  · intro w hSw
    have hSx := HF.out w hSw
    (try (obtain ⟨_, _, _, _, _, _, _, _⟩ := hSx))
    (try (obtain ⟨_, _, _, _⟩ := hSx))
    (try (obtain ⟨_, _, _⟩ := hSx))
    (try (obtain ⟨_, _⟩ := hSx))
    go_simp
    (try with_reducible rfl)
  (try simp only [Act.put, List.setIfInBounds_toArray, List.set_cons_zero, List.set_cons_succ])
  refine wpAnyH_ready (rs := [8]) (by kernel_rfl) (by simp) ?_
  refine AllReadyH.cons rfl (fun K hK => ?_) AllReadyH.nil
  go_simp
  have hlt : (n0 % 4294967296).toNat < 2 ^ (8 * 4) := by
    have : (2 : Nat) ^ (8 * 4) = 4294967296 := by decide
    omega
  have ev : IntKind.u64.wrap (IntKind.u64.wrap n0 * 4294967296) / 4294967296 = (((n0 % 4294967296).toNat : Nat) : Int) := by simp only [IntKind.wrap_u64]; omega
  rw [ev]
  refine (little_nat (n0 % 4294967296).toNat 4 (by omega) hlt D).mono ?_
  clear ev hlt
  obtain ⟨N, HN⟩ : ∃ N : Nat, Hid ((n0 % 4294967296).toNat = N) := ⟨_, rfl⟩
  rw [HN.out]
  rintro e W1 ⟨v, rfl, hv, hb1⟩
  obtain ⟨va, vc, rfl⟩ := own_sl hv
  have hS1 : Below W0.heap.size W0 W1 := hS0.trans (hb1.mono hS0.size)
  have hsz := hS1.size
  have habs := ab.size
  have HV : Hid (Src W1 va 4 vc (c8 (upk 8 4 N))) := (src_own hv).2
  have HO1 : Hid (W1.ownsRow base 5 1 u n xs) := own_below HO.out hS1
  have hbb : Below base w W1 := (ab.mono hbase).trans (hS1.mono (Nat.le_trans hbase habs))
  clear hv hb1 HO
  go_simp
  refine hK.out _ _ hS1 (fun _ => ?_)
  clear hK K
  (try simp only [Act.put, List.setIfInBounds_toArray, List.set_cons_zero, List.set_cons_succ])
  refine wpAnyH_take (i := 9) (v := ?_) rfl (by kernel_rfl) (by kernel_rfl) (by kernel_rfl) (fun _ _ _ h => h) (Or.inl ⟨by rfl, ?_⟩) (by assumption) ?_
  rotate_left
  · intro w hSw
    have hSx := HF.out w hSw
    (try (obtain ⟨_, _, _, _, _, _, _, _⟩ := hSx))
    (try (obtain ⟨_, _, _, _⟩ := hSx))
    (try (obtain ⟨_, _, _⟩ := hSx))
    (try (obtain ⟨_, _⟩ := hSx))
    go_simp
    (try with_reducible rfl)
  (try simp only [Act.put, List.setIfInBounds_toArray, List.set_cons_zero, List.set_cons_succ])
  refine wpAnyH_take (i := 10) (v := ?_) rfl (by kernel_rfl) (by kernel_rfl) (by kernel_rfl) (fun _ _ _ h => h) (Or.inl ⟨by rfl, ?_⟩) (by assumption) ?_
  rotate_left
  · intro w hSw
    have hSx := HF.out w hSw
    (try (obtain ⟨_, _, _, _, _, _, _, _⟩ := hSx))
    (try (obtain ⟨_, _, _, _⟩ := hSx))
    (try (obtain ⟨_, _, _⟩ := hSx))
    (try (obtain ⟨_, _⟩ := hSx))
    go_simp
    (try with_reducible rfl)
  (try simp only [Act.put, List.setIfInBounds_toArray, List.set_cons_zero, List.set_cons_succ])
  refine wpAnyH_take (i := 11) (v := ?_) rfl (by kernel_rfl) (by kernel_rfl) (by kernel_rfl) (fun _ _ _ h => h) (Or.inl ⟨by rfl, ?_⟩) (by assumption) ?_
  rotate_left
  · intro w hSw
    have hSx := HF.out w hSw
    (try (obtain ⟨_, _, _, _, _, _, _, _⟩ := hSx))
    (try (obtain ⟨_, _, _, _⟩ := hSx))
    (try (obtain ⟨_, _, _⟩ := hSx))
    (try (obtain ⟨_, _⟩ := hSx))
    go_simp
    (try with_reducible rfl)
  (try simp only [Act.put, List.setIfInBounds_toArray, List.set_cons_zero, List.set_cons_succ])
  refine wpAnyH_take (i := 12) (v := ?_) rfl (by kernel_rfl) (by kernel_rfl) (by kernel_rfl) (fun _ _ _ h => h) (Or.inl ⟨by rfl, ?_⟩) (by assumption) ?_
  rotate_left
  · intro w hSw
    have hSx := HF.out w hSw
    (try (obtain ⟨_, _, _, _, _, _, _, _⟩ := hSx))
    (try (obtain ⟨_, _, _, _⟩ := hSx))
    (try (obtain ⟨_, _, _⟩ := hSx))
    (try (obtain ⟨_, _⟩ := hSx))
    go_simp
    (try with_reducible rfl)
  (try simp only [Act.put, List.setIfInBounds_toArray, List.set_cons_zero, List.set_cons_succ])
  refine wpAnyH_take (i := 13) (v := ?_) rfl (by kernel_rfl) (by kernel_rfl) (by kernel_rfl) (fun _ _ _ h => h) (Or.inl ⟨by rfl, ?_⟩) (by assumption) ?_
  rotate_left
  · intro w hSw
    have hSx := HF.out w hSw
    (try (obtain ⟨_, _, _, _, _, _, _, _⟩ := hSx))
    (try (obtain ⟨_, _, _, _⟩ := hSx))
    (try (obtain ⟨_, _, _⟩ := hSx))
    (try (obtain ⟨_, _⟩ := hSx))
    go_simp
    (try with_reducible rfl)
  (try simp only [Act.put, List.setIfInBounds_toArray, List.set_cons_zero, List.set_cons_succ])
  refine wpAnyH_done (by kernel_rfl) ?_ _
  go_wp2_with (at_builtin; refine wpList_append_src rfl (.tmp 21) (.tmp 22) 27 rfl base 5 i0 (.int .u8 0) 1 Try.underlying27 hi hz0 hz1 hz2 rfl _ _ _ rfl HO1.out va 4 vc (c8 (upk 8 4 N)) rfl HV.out (c8_one _) (by unfold maxLen; omega) (by omega) (by omega) ?_; intro v1 W2 hown1 hb2)
  go_ret
  exact ⟨_, rfl, by rw [HN.out]; exact hown1, hbb.trans hb2⟩
set_option maxRecDepth 100000 in
set_option maxHeartbeats 2000000 in
theorem num2_8 (d : Dat) (B B' : Nat) (w : World) (hB : w.cell? ⟨B, 0, none⟩ = some (.int .i64 0)) (hB' : w.cell? ⟨B', 0, none⟩ = some (.int .i64 8)) (base : Nat) (u : Value) (n : Nat) (xs : List Value) (hown : w.ownsRow base 5 1 u n xs) (hbase : base ≤ w.heap.size) (hn : n ≤ 1099511627776) :
    Calls Try.prog 65 #[u, dval d, .pointer (some ⟨B, 0, none⟩), .pointer (some ⟨B', 0, none⟩)] w fun e w' => ∃ u', e = .returned u' ∧ w'.ownsRow base 5 1 u' (n + 8) (xs ++ c8 (upk 8 8 (d.n % 18446744073709551616).toNat)) ∧ Below base w w' := by
  obtain ⟨k0, n0, s0⟩ := d
  unfold dval
  simp only
  have ab := alloc_below w (.cells #[.int .i64 k0, .int .i64 n0, .string s0] 48)
  have c0 := cell_later ab hB
  have c1 := cell_later ab hB'
  have hx := heap_new w (.cells #[.int .i64 k0, .int .i64 n0, .string s0] 48 (0, 0))
  have HO : Hid ((w.alloc (.cells #[.int .i64 k0, .int .i64 n0, .string s0] 48)).ownsRow base 5 1 u n xs) := own_below hown ab
  obtain ⟨i0, hi, hz0, hz1, hz2⟩ := info_parts infoU8
  go_enter Try.func65, Try.ntmps65
  go_wp2_with fail
  generalize w.alloc (.cells #[.int .i64 k0, .int .i64 n0, .string s0] 48) = W0 at *
  have HF : Hid (∀ W, Below W0.heap.size W0 W → W.cell? ⟨B, 0, none⟩ = some (.int .i64 0) ∧ W.cell? ⟨B', 0, none⟩ = some (.int .i64 8) ∧ W.cell? ⟨w.heap.size, 1, none⟩ = some (.int .i64 n0)) := fun W h => ⟨cell_later h c0, cell_later h c1, cell_of_block (below_at h hx) rfl⟩
  have hS0 : Below W0.heap.size W0 W0.drew := (Below.refl _ _).drew
  clear c0 c1 hx hown
  refine wp_region_held_drew (S := fun W => Below W0.heap.size W0 W) (by kernel_rfl) hS0 (fun hHeld => ?_)
  clear hHeld
  generalize W0.drew = D at *
  refine wpAnyH_take (i := 0) (v := ?_) rfl (by kernel_rfl) (by kernel_rfl) (by kernel_rfl) (fun _ _ _ h => h) (Or.inl ⟨by rfl, ?_⟩) (by assumption) ?_
  rotate_left
  · intro w hSw
    have hSx := HF.out w hSw
    (try (obtain ⟨_, _, _, _, _, _, _, _⟩ := hSx))
    (try (obtain ⟨_, _, _, _⟩ := hSx))
    (try (obtain ⟨_, _, _⟩ := hSx))
    (try (obtain ⟨_, _⟩ := hSx))
    go_simp
    (try with_reducible rfl)
  (try simp only [Act.put, List.setIfInBounds_toArray, List.set_cons_zero, List.set_cons_succ])
  refine wpAnyH_take (i := 1) (v := ?_) rfl (by kernel_rfl) (by kernel_rfl) (by kernel_rfl) (fun _ _ _ h => h) (Or.inl ⟨by rfl, ?_⟩) (by assumption) ?_
  rotate_left
  · intro w hSw
    have hSx := HF.out w hSw
    (try (obtain ⟨_, _, _, _, _, _, _, _⟩ := hSx))
    (try (obtain ⟨_, _, _, _⟩ := hSx))
    (try (obtain ⟨_, _, _⟩ := hSx))
    (try (obtain ⟨_, _⟩ := hSx))
    go_simp
    (try with_reducible rfl)
  (try simp only [Act.put, List.setIfInBounds_toArray, List.set_cons_zero, List.set_cons_succ])
  refine wpAnyH_take (i := 2) (v := ?_) rfl (by kernel_rfl) (by kernel_rfl) (by kernel_rfl) (fun _ _ _ h => h) (Or.inl ⟨by rfl, ?_⟩) (by assumption) ?_
  rotate_left
  · intro w hSw
    have hSx := HF.out w hSw
    (try (obtain ⟨_, _, _, _, _, _, _, _⟩ := hSx))
    (try (obtain ⟨_, _, _, _⟩ := hSx))
    (try (obtain ⟨_, _, _⟩ := hSx))
    (try (obtain ⟨_, _⟩ := hSx))
    go_simp
    (try with_reducible rfl)
  (try simp only [Act.put, List.setIfInBounds_toArray, List.set_cons_zero, List.set_cons_succ])
  refine wpAnyH_take (i := 3) (v := ?_) rfl (by kernel_rfl) (by kernel_rfl) (by kernel_rfl) (fun _ _ _ h => h) (Or.inl ⟨by rfl, ?_⟩) (by assumption) ?_
  rotate_left
  · intro w hSw
    have hSx := HF.out w hSw
    (try (obtain ⟨_, _, _, _, _, _, _, _⟩ := hSx))
    (try (obtain ⟨_, _, _, _⟩ := hSx))
    (try (obtain ⟨_, _, _⟩ := hSx))
    (try (obtain ⟨_, _⟩ := hSx))
    go_simp
    (try with_reducible rfl)
  (try simp only [Act.put, List.setIfInBounds_toArray, List.set_cons_zero, List.set_cons_succ])
  refine wpAnyH_take (i := 4) (v := ?_) rfl (by kernel_rfl) (by kernel_rfl) (by kernel_rfl) (fun _ _ _ h => h) (Or.inl ⟨by rfl, ?_⟩) (by assumption) ?_
  rotate_left
  · intro w hSw
    have hSx := HF.out w hSw
    (try (obtain ⟨_, _, _, _, _, _, _, _⟩ := hSx))
    (try (obtain ⟨_, _, _, _⟩ := hSx))
    (try (obtain ⟨_, _, _⟩ := hSx))
    (try (obtain ⟨_, _⟩ := hSx))
    go_simp
    (try with_reducible rfl)
  (try simp only [Act.put, List.setIfInBounds_toArray, List.set_cons_zero, List.set_cons_succ])
  refine wpAnyH_take (i := 5) (v := ?_) rfl (by kernel_rfl) (by kernel_rfl) (by kernel_rfl) (fun _ _ _ h => h) (Or.inl ⟨by rfl, ?_⟩) (by assumption) ?_
  rotate_left
  · intro w hSw
    have hSx := HF.out w hSw
    (try (obtain ⟨_, _, _, _, _, _, _, _⟩ := hSx))
    (try (obtain ⟨_, _, _, _⟩ := hSx))
    (try (obtain ⟨_, _, _⟩ := hSx))
    (try (obtain ⟨_, _⟩ := hSx))
    go_simp
    (try with_reducible rfl)
  (try simp only [Act.put, List.setIfInBounds_toArray, List.set_cons_zero, List.set_cons_succ])
  refine wpAnyH_take (i := 6) (v := ?_) rfl (by kernel_rfl) (by kernel_rfl) (by kernel_rfl) (fun _ _ _ h => h) (Or.inl ⟨by rfl, ?_⟩) (by assumption) ?_
  rotate_left
  · intro w hSw
    have hSx := HF.out w hSw
    (try (obtain ⟨_, _, _, _, _, _, _, _⟩ := hSx))
    (try (obtain ⟨_, _, _, _⟩ := hSx))
    (try (obtain ⟨_, _, _⟩ := hSx))
    (try (obtain ⟨_, _⟩ := hSx))
    go_simp
    (try with_reducible rfl)
  (try simp only [Act.put, List.setIfInBounds_toArray, List.set_cons_zero, List.set_cons_succ])
  refine wpAnyH_take (i := 7) (v := ?_) rfl (by kernel_rfl) (by kernel_rfl) (by kernel_rfl) (fun _ _ _ h => h) (Or.inl ⟨by rfl, ?_⟩) (by assumption) ?_
  rotate_left
  · intro w hSw
    have hSx := HF.out w hSw
    (try (obtain ⟨_, _, _, _, _, _, _, _⟩ := hSx))
    (try (obtain ⟨_, _, _, _⟩ := hSx))
    (try (obtain ⟨_, _, _⟩ := hSx))
    (try (obtain ⟨_, _⟩ := hSx))
    go_simp
    (try with_reducible rfl)
  (try simp only [Act.put, List.setIfInBounds_toArray, List.set_cons_zero, List.set_cons_succ])
  refine wpAnyH_ready (rs := [8]) (by kernel_rfl) (by simp) ?_
  refine AllReadyH.cons rfl (fun K hK => ?_) AllReadyH.nil
  go_simp
  have hlt : (n0 % 18446744073709551616).toNat < 2 ^ (8 * 8) := by
    have : (2 : Nat) ^ (8 * 8) = 18446744073709551616 := by decide
    omega
  have ev : IntKind.u64.wrap (IntKind.u64.wrap n0) = (((n0 % 18446744073709551616).toNat : Nat) : Int) := by simp only [IntKind.wrap_u64]; omega
  rw [ev]
  refine (little_nat (n0 % 18446744073709551616).toNat 8 (by omega) hlt D).mono ?_
  clear ev hlt
  obtain ⟨N, HN⟩ : ∃ N : Nat, Hid ((n0 % 18446744073709551616).toNat = N) := ⟨_, rfl⟩
  rw [HN.out]
  rintro e W1 ⟨v, rfl, hv, hb1⟩
  obtain ⟨va, vc, rfl⟩ := own_sl hv
  have hS1 : Below W0.heap.size W0 W1 := hS0.trans (hb1.mono hS0.size)
  have hsz := hS1.size
  have habs := ab.size
  have HV : Hid (Src W1 va 8 vc (c8 (upk 8 8 N))) := (src_own hv).2
  have HO1 : Hid (W1.ownsRow base 5 1 u n xs) := own_below HO.out hS1
  have hbb : Below base w W1 := (ab.mono hbase).trans (hS1.mono (Nat.le_trans hbase habs))
  clear hv hb1 HO
  go_simp
  refine hK.out _ _ hS1 (fun _ => ?_)
  clear hK K
  (try simp only [Act.put, List.setIfInBounds_toArray, List.set_cons_zero, List.set_cons_succ])
  refine wpAnyH_take (i := 9) (v := ?_) rfl (by kernel_rfl) (by kernel_rfl) (by kernel_rfl) (fun _ _ _ h => h) (Or.inl ⟨by rfl, ?_⟩) (by assumption) ?_
  rotate_left
  · intro w hSw
    have hSx := HF.out w hSw
    (try (obtain ⟨_, _, _, _, _, _, _, _⟩ := hSx))
    (try (obtain ⟨_, _, _, _⟩ := hSx))
    (try (obtain ⟨_, _, _⟩ := hSx))
    (try (obtain ⟨_, _⟩ := hSx))
    go_simp
    (try with_reducible rfl)
  (try simp only [Act.put, List.setIfInBounds_toArray, List.set_cons_zero, List.set_cons_succ])
  refine wpAnyH_take (i := 10) (v := ?_) rfl (by kernel_rfl) (by kernel_rfl) (by kernel_rfl) (fun _ _ _ h => h) (Or.inl ⟨by rfl, ?_⟩) (by assumption) ?_
  rotate_left
  · intro w hSw
    have hSx := HF.out w hSw
    (try (obtain ⟨_, _, _, _, _, _, _, _⟩ := hSx))
    (try (obtain ⟨_, _, _, _⟩ := hSx))
    (try (obtain ⟨_, _, _⟩ := hSx))
    (try (obtain ⟨_, _⟩ := hSx))
    go_simp
    (try with_reducible rfl)
  (try simp only [Act.put, List.setIfInBounds_toArray, List.set_cons_zero, List.set_cons_succ])
  refine wpAnyH_take (i := 11) (v := ?_) rfl (by kernel_rfl) (by kernel_rfl) (by kernel_rfl) (fun _ _ _ h => h) (Or.inl ⟨by rfl, ?_⟩) (by assumption) ?_
  rotate_left
  · intro w hSw
    have hSx := HF.out w hSw
    (try (obtain ⟨_, _, _, _, _, _, _, _⟩ := hSx))
    (try (obtain ⟨_, _, _, _⟩ := hSx))
    (try (obtain ⟨_, _, _⟩ := hSx))
    (try (obtain ⟨_, _⟩ := hSx))
    go_simp
    (try with_reducible rfl)
  (try simp only [Act.put, List.setIfInBounds_toArray, List.set_cons_zero, List.set_cons_succ])
  refine wpAnyH_take (i := 12) (v := ?_) rfl (by kernel_rfl) (by kernel_rfl) (by kernel_rfl) (fun _ _ _ h => h) (Or.inl ⟨by rfl, ?_⟩) (by assumption) ?_
  rotate_left
  · intro w hSw
    have hSx := HF.out w hSw
    (try (obtain ⟨_, _, _, _, _, _, _, _⟩ := hSx))
    (try (obtain ⟨_, _, _, _⟩ := hSx))
    (try (obtain ⟨_, _, _⟩ := hSx))
    (try (obtain ⟨_, _⟩ := hSx))
    go_simp
    (try with_reducible rfl)
  (try simp only [Act.put, List.setIfInBounds_toArray, List.set_cons_zero, List.set_cons_succ])
  refine wpAnyH_take (i := 13) (v := ?_) rfl (by kernel_rfl) (by kernel_rfl) (by kernel_rfl) (fun _ _ _ h => h) (Or.inl ⟨by rfl, ?_⟩) (by assumption) ?_
  rotate_left
  · intro w hSw
    have hSx := HF.out w hSw
    (try (obtain ⟨_, _, _, _, _, _, _, _⟩ := hSx))
    (try (obtain ⟨_, _, _, _⟩ := hSx))
    (try (obtain ⟨_, _, _⟩ := hSx))
    (try (obtain ⟨_, _⟩ := hSx))
    go_simp
    (try with_reducible rfl)
  (try simp only [Act.put, List.setIfInBounds_toArray, List.set_cons_zero, List.set_cons_succ])
  refine wpAnyH_done (by kernel_rfl) ?_ _
  go_wp2_with (at_builtin; refine wpList_append_src rfl (.tmp 21) (.tmp 22) 27 rfl base 5 i0 (.int .u8 0) 1 Try.underlying27 hi hz0 hz1 hz2 rfl _ _ _ rfl HO1.out va 8 vc (c8 (upk 8 8 N)) rfl HV.out (c8_one _) (by unfold maxLen; omega) (by omega) (by omega) ?_; intro v1 W2 hown1 hb2)
  go_ret
  exact ⟨_, rfl, by rw [HN.out]; exact hown1, hbb.trans hb2⟩
end Go.Proofs.Ytfocmlajeflenaa
