/-
  The reference's Least: the least cost over all shapes of codes.
-/
import Derived.Test.YtfcjnpbnejaolaaGrd
import Derived.Test.YtfcjnpbnejaolaaLeaC
import Derived.Deep.RegionHeld3
namespace Go.Proofs.Ytfcjnpbnejaolaa
set_option linter.unusedVariables false
set_option linter.unusedSimpArgs false
open Go.ChangeShapes Go.WideShapes Go.ChangeAt Go.RowKit Go.Sort Go.Shelf

theorem PG.base {W : World} {B C O n i : Nat} {rows : Nat → Nat} {T : Nat → Nat → Nat} (h : PG W B O n i rows T) (hc : C ≤ B) : PG W C O n i rows T := ⟨h.out, h.row, h.inj, h.ne, Nat.le_trans hc h.lo.1, fun j hj => Nat.le_trans hc (h.lo.2 j hj)⟩
theorem filter_some1 (m : List Nat) : (some1 m m.length).map (fun i => m.getD i 0) = m.filter fun x => decide (0 < x) := by
  have e : m = (List.range m.length).map (fun i => m.getD i 0) := by
    refine List.ext_getElem (by simp) (fun i h1 h2 => ?_)
    simp [List.getD, List.getElem?_eq_getElem h1]
  conv => rhs; rw [e]
  rw [List.filter_map]
  rfl
theorem dsc_asc {m acc : List Nat} (h : Dsc m acc) : acc = ((syms m).map fun i => m.getD i 0).reverse := by
  have hp : acc.Perm ((syms m).map fun i => m.getD i 0).reverse := by
    refine h.2.trans ?_
    rw [← filter_some1]
    exact ((syms_perm m).map _).symm.trans (List.reverse_perm _).symm
  refine List.Perm.eq_of_pairwise (le := fun x y => y ≤ x) (fun a b _ _ h1 h2 => by omega) h.1 ?_ hp
  rw [List.pairwise_reverse, List.pairwise_map]
  refine (syms_sorted m).imp ?_
  intro x y h
  unfold ordB at h
  simp at h
  simp only [List.getD_eq_getElem?_getD]
  omega
theorem dsc_sum {m acc : List Nat} (h : Dsc m acc) : acc.length = (syms m).length ∧ ∀ i, i ≤ acc.length → (acc.take i).sum + sumT (sgl m (syms m)) (acc.length - i) = sumT (sgl m (syms m)) acc.length := by
  have e := dsc_asc h
  have hl : acc.length = (syms m).length := by rw [e]; simp
  refine ⟨hl, fun i hi => ?_⟩
  rw [sumT_sgl, sumT_sgl]
  have e2 : acc.take i = (((syms m).map fun i => m.getD i 0).drop (acc.length - i)).reverse := by
    conv => lhs; rw [e]
    rw [List.take_reverse, List.length_map, ← hl]
  rw [e2, List.sum_reverse, ← List.map_drop, List.take_of_length_le (show (syms m).length ≤ acc.length by omega)]
  conv => rhs; rw [← List.take_append_drop (acc.length - i) (syms m), List.map_append, List.sum_append]
  omega
theorem dsc_mem {m acc : List Nat} (h : Dsc m acc) : ∀ x ∈ acc, x ∈ m := fun x hx => by
  have := h.2.mem_iff.1 hx
  exact (List.mem_filter.1 this).1
theorem sum_le_mul : ∀ (l : List Nat) (M : Nat), (∀ x ∈ l, x ≤ M) → l.sum ≤ l.length * M
  | [], M, _ => by simp
  | x :: t, M, h => by
    have := sum_le_mul t M (fun y hy => h y (by simp [hy]))
    have := h x (by simp)
    rw [List.sum_cons, List.length_cons, Nat.succ_mul]
    omega
/-- the sums so far -/
def smL (acc : List Nat) (i : Nat) : List Nat := (List.range (acc.length + 1)).map fun j => if j ≤ i then (acc.take j).sum else 0
theorem smL_len (acc : List Nat) (i : Nat) : (smL acc i).length = acc.length + 1 := by simp [smL]
theorem smL_get (acc : List Nat) (i j : Nat) (hj : j ≤ acc.length) (hi : j ≤ i) : (smL acc i).getD j 0 = (acc.take j).sum := by
  unfold smL
  rw [range_getD _ _ _ (by omega), if_pos hi]
theorem smL_zero (acc : List Nat) : smL acc 0 = List.replicate (acc.length + 1) 0 := by
  unfold smL
  apply List.ext_getElem
  · simp
  · intro j h1 h2
    simp
    intro h
    subst h
    simp
theorem smL_set (acc : List Nat) (i : Nat) (hi : i < acc.length) : (smL acc i).set (i + 1) ((acc.take i).sum + acc.getD i 0) = smL acc (i + 1) := by
  have e : (acc.take (i + 1)).sum = (acc.take i).sum + acc.getD i 0 := by rw [take_succ_getD acc i hi, List.sum_append]; simp
  rw [← e]
  unfold smL
  apply List.ext_getElem
  · simp
  · intro j h1 h2
    rw [List.getElem_set]
    simp only [List.getElem_map, List.getElem_range]
    by_cases h : i + 1 = j
    · rw [if_pos h, if_pos (by omega), h]
    · rw [if_neg h]
      by_cases h3 : j ≤ i
      · rw [if_pos h3, if_pos (by omega)]
      · rw [if_neg h3, if_neg (by omega)]

set_option maxRecDepth 100000 in
set_option maxHeartbeats 8000000 in
theorem least_any (w : World) (a : Option Addr) (len cap : Nat) (m : List Nat) (L : Nat) (hs : Src w a len cap (cn m)) (hlen : len ≤ 1000) (hm : ∀ x ∈ m, x ≤ 2147483647) (hL : 1 ≤ L) (hL2 : L ≤ 15) (h2 : 2 ≤ (syms m).length) (h40 : (syms m).length ≤ 40) (hn : (syms m).length ≤ 2 ^ L) :
    Calls Try.prog 13 #[.slice a len cap, .int .i64 L] w fun e w' => e = .returned (.int .i64 ((sumT (stp (sgl m (syms m)) (L - 1)) (2 * (syms m).length - 2) : Nat) : Int)) ∧ Below w.heap.size w w' := by
  have K := sorted_any w a len cap m hs hlen hm
  have HSL : Hid ((sgl m (syms m)).length = (syms m).length) := by show _ = _; simp [sgl]
  have HTL : Hid (∀ T, L * sumT (sgl m (syms m)) (syms m).length < NoC → Tab (sgl m (syms m)) (syms m).length L T → T (syms m).length 0 = sumT (stp (sgl m (syms m)) (L - 1)) (2 * (syms m).length - 2)) := fun T hA ht => by
    have := tab_least (sgl m (syms m)) (sgl_no m _) (sgl_pos m) (sgl_ris m) L hL (by rw [HSL.out]; exact h2) (by rw [HSL.out]; exact hn) (by rw [HSL.out]; exact hA) T (by rw [HSL.out]; exact ht)
    rwa [HSL.out] at this
  refine calls_of fun Q HQ => ?_
  have QOK : ∀ x w', Hid (x = sumT (stp (sgl m (syms m)) (L - 1)) (2 * (syms m).length - 2)) → Below w.heap.size w w' → Q (.returned (.int .i64 ((x : Nat) : Int))) w' := fun x w' h1 h3 => HQ _ _ ⟨by rw [h1.out], h3⟩
  have HM : Hid (∀ x ∈ m, x ≤ 2147483647) := hm
  clear HQ hs hn hm
  go_enter Try.func13, Try.ntmps13
  go_wp2_with fail
  refine K.mono ?_
  rintro e W0 ⟨v0, acc, rfl, hown, hd, hb0⟩
  obtain ⟨hal, hsum⟩ := dsc_sum hd
  rw [← hal] at h2 h40 HTL QOK
  have HMA : Hid (∀ x ∈ acc, x ≤ 2147483647) := fun x hx => HM.out x (dsc_mem hd x hx)
  generalize sgl m (syms m) = s at *
  obtain ⟨ad0, c0, rfl⟩ := own_sl hown
  obtain ⟨n, hnn⟩ : ∃ n, acc.length = n := ⟨_, rfl⟩
  have HN : Hid (acc.length = n) := hnn
  rw [hnn] at h2 h40 HTL QOK hown hsum ⊢
  have HSUM : Hid (∀ i, i ≤ n → (acc.take i).sum + sumT s (n - i) = sumT s n) := hsum
  have HA : Hid (sumT s n ≤ 85899345880) := by
    have h := HSUM.out n (Nat.le_refl _)
    rw [Nat.sub_self, sumT_zero, Nat.add_zero, List.take_of_length_le (by rw [HN.out]; exact Nat.le_refl _)] at h
    have h3 := sum_le_mul acc 2147483647 HMA.out
    rw [HN.out] at h3
    show _ ≤ _
    have h4 : n * 2147483647 ≤ 40 * 2147483647 := Nat.mul_le_mul_right _ h40
    omega
  have HSB : Hid (∀ i, (acc.take i).sum ≤ 85899345880) := fun i => by
    have h3 := sum_le_mul (acc.take i) 2147483647 (fun x hx => HMA.out x (List.mem_of_mem_take hx))
    have h4 : (acc.take i).length ≤ 40 := by rw [List.length_take]; omega
    have h5 : (acc.take i).length * 2147483647 ≤ 40 * 2147483647 := Nat.mul_le_mul_right _ h4
    omega
  clear hal hsum hnn hd HSL HM K
  have hn2 : (2 : Int) ≤ (n : Int) := by omega
  have hn40 : (n : Int) ≤ 40 := by omega
  obtain ⟨N, hN⟩ : ∃ N, N = n + 1 := ⟨_, rfl⟩
  have hNi : (n : Int) + 1 = (N : Int) := by omega
  have hN41 : N ≤ 41 := by omega
  have hN41' : (N : Int) ≤ 41 := by omega
  have hL1' : (1 : Int) ≤ (L : Int) := by omega
  have hL2' : (L : Int) ≤ 15 := by omega
  have HNN : Hid (N = n + 1) := hN
  have HO0 : Hid (W0.ownsRow w.heap.size 3 1 (.slice ad0 n c0) n (cn acc)) := hown
  have HB0 : Hid (Below w.heap.size w W0) := hb0
  have HZ0 : Hid (w.heap.size ≤ W0.heap.size) := hb0.size
  clear hN hown hb0
  go_wp2_with (at_make; refine wpList_makeVec _ rfl _ _ rfl N rfl rfl (by omega) ?_; intro W1 hv1 hb1)
  have HV1 : Hid (Vec W1 W0.heap.size (smL acc 0)) := by show Vec _ _ _; rw [smL_zero, HN.out, ← HNN.out]; exact hv1
  have HB1 : Hid (Below W0.heap.size W0 W1) := hb1
  have HS1 : Hid (Src W1 ad0 n c0 (cn acc)) := (src_own HO0.out).2.later hb1
  clear hv1 hb1
  generalize hSm : W0.heap.size = Sm at *
  go_loopw [8] (fun iv wr => ∃ i : Nat, i ≤ n ∧ iv = .int .i64 (i : Int) ∧ Hid (Vec wr Sm (smL acc i)) ∧ Below Sm W1 wr) (fun iv _ => n - (intOf iv).toNat)
  case atStart => exact ⟨0, Nat.zero_le _, rfl, HV1, Below.refl _ _⟩
  case round =>
    obtain ⟨i, hi, rfl, HV, hb⟩ := hrel
    by_cases hlt : i < n
    · have hlt' : (i : Int) < (n : Int) := by omega
      obtain ⟨g, o, rfl, q0⟩ := src_atn HS1.out hlt
      have hgS : g < Sm := by
        have h := HO0.out.lt g (by rfl)
        rw [hSm] at h
        exact h.2
      have d0 : wr.cell? ⟨g, o + i, none⟩ = some (.int .i64 ((acc.getD i 0 : Nat) : Int)) := (hb.cell (p := ⟨g, o + i, none⟩) hgS).trans q0
      have d1 : wr.cell? ⟨Sm, i, none⟩ = some (.int .i64 (((acc.take i).sum : Nat) : Int)) := by
        have h := HV.out.cell (j := i) (by rw [smL_len, HN.out]; omega)
        rwa [smL_get _ _ _ (by rw [HN.out]; omega) (Nat.le_refl _)] at h
      obtain ⟨I1, hI1⟩ : ∃ I, I = i + 1 := ⟨_, rfl⟩
      obtain ⟨Sx, hSx⟩ : ∃ X, X = (acc.take i).sum + acc.getD i 0 := ⟨_, rfl⟩
      obtain ⟨u2, d2⟩ : ∃ u, wr.cell? ⟨Sm, I1, none⟩ = some u := ⟨_, HV.out.cell (j := I1) (by rw [smL_len, HN.out]; omega)⟩
      have f2 : wr.frozen? ⟨Sm, I1, none⟩ = false := HV.out.frozen _
      have HV2 : Hid (Vec (wr.drew.setCell ⟨Sm, I1, none⟩ (.int .i64 (Sx : Int))) Sm (smL acc (i + 1))) := by
        have h := HV.out.set (i + 1) ((acc.take i).sum + acc.getD i 0)
        rw [smL_set _ _ (by rw [HN.out]; exact hlt)] at h
        show Vec _ _ _
        rw [hI1, hSx]
        exact h
      have hb2 : Hid (Below Sm W1 (wr.drew.setCell ⟨Sm, I1, none⟩ (.int .i64 (Sx : Int)))) := (hb.drew).setCell (p := ⟨Sm, I1, none⟩) (Nat.le_refl _) _
      have HD2 : Hid ((wr.drew.setCell ⟨Sm, I1, none⟩ (.int .i64 (Sx : Int))).cell? ⟨g, o + i, none⟩ = some (.int .i64 ((acc.getD i 0 : Nat) : Int)) ∧ (wr.drew.setCell ⟨Sm, I1, none⟩ (.int .i64 (Sx : Int))).cell? ⟨Sm, i, none⟩ = some (.int .i64 (((acc.take i).sum : Nat) : Int))) := ⟨by rw [World.cell?_setCell_other _ _ _ _ (by simp <;> omega)]; exact d0, by rw [World.cell?_setCell_other _ _ _ _ (by simp <;> omega)]; exact d1⟩
      have y1 := HSB.out i
      have y2 : acc.getD i 0 ≤ 2147483647 := by rw [getD_eq (by rw [HN.out]; exact hlt)]; exact HMA.out _ (List.getElem_mem _)
      have HI1 : Hid (I1 = i + 1) := hI1
      generalize (acc.take i).sum = S0 at *
      generalize acc.getD i 0 = x0 at *
      have hi1 : (i : Int) + 1 = (I1 : Int) := by omega
      have hsx : (S0 : Int) + (x0 : Int) = (Sx : Int) := by omega
      have hSx' : (Sx : Int) ≤ 100000000000 := by omega
      have hS0' : (S0 : Int) ≤ 85899345880 := by omega
      have hx0' : (x0 : Int) ≤ 2147483647 := by omega
      have w1 : IntKind.i64.wrap (Sx : Int) = (Sx : Int) := by rw [IntKind.wrap_i64]; omega
      have w2 : IntKind.i64.wrap (I1 : Int) = (I1 : Int) := by rw [IntKind.wrap_i64]; omega
      have hN1 : I1 < N := by have := HNN.out; omega
      have hN1' : (I1 : Int) < (N : Int) := by omega
      have hN0 : i < N := by omega
      have hN0' : (i : Int) < (N : Int) := by omega
      have f2d : wr.drew.frozen? ⟨Sm, I1, none⟩ = false := f2
      have d2d : wr.drew.cell? ⟨Sm, I1, none⟩ = some u2 := d2
      clear hI1 hSx
      clear q0 HV
      go_wp2_with fail
      refine wp_region_held_drew (S := fun w' => w'.cell? ⟨g, o + i, none⟩ = some (.int .i64 (x0 : Int)) ∧ w'.cell? ⟨Sm, i, none⟩ = some (.int .i64 (S0 : Int))) (by kernel_rfl) ⟨d0, d1⟩ (fun hHeld => ?_)
      refine wpAnyH_take (i := 0) (v := ?_) rfl (by kernel_rfl) (by kernel_rfl) (by kernel_rfl) (fun _ _ _ h => h) (Or.inl ⟨by rfl, ?_⟩) (by assumption) ?_
      rotate_left
      · intro w hSw
        (try dsimp only at hSw)
        (try (obtain ⟨_, _, _, _, _, _, _⟩ := hSw))
        (try (obtain ⟨_, _⟩ := hSw))
        go_simp
        (try with_reducible rfl)
      (try simp only [Act.put, List.setIfInBounds_toArray, List.set_cons_zero, List.set_cons_succ])
      refine wpAnyH_take (i := 1) (v := ?_) rfl (by kernel_rfl) (by kernel_rfl) (by kernel_rfl) (fun _ _ _ h => h) (Or.inl ⟨by rfl, ?_⟩) (by assumption) ?_
      rotate_left
      · intro w hSw
        (try dsimp only at hSw)
        (try (obtain ⟨_, _, _, _, _, _, _⟩ := hSw))
        (try (obtain ⟨_, _⟩ := hSw))
        go_simp
        (try with_reducible rfl)
      (try simp only [Act.put, List.setIfInBounds_toArray, List.set_cons_zero, List.set_cons_succ])
      refine wpAnyH_take (i := 2) (v := ?_) rfl (by kernel_rfl) (by kernel_rfl) (by kernel_rfl) (fun _ _ _ h => h) (Or.inl ⟨by rfl, ?_⟩) (by assumption) ?_
      rotate_left
      · intro w hSw
        (try dsimp only at hSw)
        (try (obtain ⟨_, _, _, _, _, _, _⟩ := hSw))
        (try (obtain ⟨_, _⟩ := hSw))
        go_simp
        (try with_reducible rfl)
      (try simp only [Act.put, List.setIfInBounds_toArray, List.set_cons_zero, List.set_cons_succ])
      refine wpAnyH_take (i := 3) (v := ?_) rfl (by kernel_rfl) (by kernel_rfl) (by kernel_rfl) (fun _ _ _ h => h) (Or.inl ⟨by rfl, ?_⟩) (by assumption) ?_
      rotate_left
      · intro w hSw
        (try dsimp only at hSw)
        (try (obtain ⟨_, _, _, _, _, _, _⟩ := hSw))
        (try (obtain ⟨_, _⟩ := hSw))
        go_simp
        (try with_reducible rfl)
      (try simp only [Act.put, List.setIfInBounds_toArray, List.set_cons_zero, List.set_cons_succ])
      refine wpAnyH_take (i := 4) (v := ?_) rfl (by kernel_rfl) (by kernel_rfl) (by kernel_rfl) (fun _ _ _ h => h) (Or.inl ⟨by rfl, ?_⟩) (by assumption) ?_
      rotate_left
      · intro w hSw
        (try dsimp only at hSw)
        (try (obtain ⟨_, _, _, _, _, _, _⟩ := hSw))
        (try (obtain ⟨_, _⟩ := hSw))
        go_simp
        (try with_reducible rfl)
      (try simp only [Act.put, List.setIfInBounds_toArray, List.set_cons_zero, List.set_cons_succ])
      refine wpAnyH_take (i := 5) (v := ?_) rfl (by kernel_rfl) (by kernel_rfl) (by kernel_rfl) (fun _ _ _ h => h) (Or.inl ⟨by rfl, ?_⟩) (by assumption) ?_
      rotate_left
      · intro w hSw
        (try dsimp only at hSw)
        (try (obtain ⟨_, _, _, _, _, _, _⟩ := hSw))
        (try (obtain ⟨_, _⟩ := hSw))
        go_simp
        (try with_reducible rfl)
      (try simp only [Act.put, List.setIfInBounds_toArray, List.set_cons_zero, List.set_cons_succ])
      refine wpAnyH_take (i := 6) (v := ?_) rfl (by kernel_rfl) (by kernel_rfl) (by kernel_rfl) (fun _ _ _ h => h) (Or.inl ⟨by rfl, ?_⟩) (by assumption) ?_
      rotate_left
      · intro w hSw
        (try dsimp only at hSw)
        (try (obtain ⟨_, _, _, _, _, _, _⟩ := hSw))
        (try (obtain ⟨_, _⟩ := hSw))
        go_simp
        (try with_reducible rfl)
      (try simp only [Act.put, List.setIfInBounds_toArray, List.set_cons_zero, List.set_cons_succ])
      refine wpAnyH_take (i := 7) (v := ?_) rfl (by kernel_rfl) (by kernel_rfl) (by kernel_rfl) (fun _ _ _ h => h) (Or.inl ⟨by rfl, ?_⟩) (by assumption) ?_
      rotate_left
      · intro w hSw
        (try dsimp only at hSw)
        (try (obtain ⟨_, _, _, _, _, _, _⟩ := hSw))
        (try (obtain ⟨_, _⟩ := hSw))
        go_simp
        (try with_reducible rfl)
      (try simp only [Act.put, List.setIfInBounds_toArray, List.set_cons_zero, List.set_cons_succ])
      refine wpAnyH_take (i := 8) (v := ?_) rfl (by kernel_rfl) (by kernel_rfl) (by kernel_rfl) (fun _ _ _ h => h) (Or.inl ⟨by rfl, ?_⟩) (by assumption) ?_
      rotate_left
      · intro w hSw
        (try dsimp only at hSw)
        (try (obtain ⟨_, _, _, _, _, _, _⟩ := hSw))
        (try (obtain ⟨_, _⟩ := hSw))
        go_simp
        (try with_reducible rfl)
      (try simp only [Act.put, List.setIfInBounds_toArray, List.set_cons_zero, List.set_cons_succ])
      refine wpAnyH_take (i := 9) (v := ?_) rfl (by kernel_rfl) (by kernel_rfl) (by kernel_rfl) (fun _ _ _ h => h) (Or.inl ⟨by rfl, ?_⟩) (by assumption) ?_
      rotate_left
      · intro w hSw
        (try dsimp only at hSw)
        (try (obtain ⟨_, _, _, _, _, _, _⟩ := hSw))
        (try (obtain ⟨_, _⟩ := hSw))
        go_simp
        (try with_reducible rfl)
      (try simp only [Act.put, List.setIfInBounds_toArray, List.set_cons_zero, List.set_cons_succ])
      refine wpAnyH_take (i := 10) (v := ?_) rfl (by kernel_rfl) (by kernel_rfl) (by kernel_rfl) (fun _ _ _ h => h) (Or.inl ⟨by rfl, ?_⟩) (by assumption) ?_
      rotate_left
      · intro w hSw
        (try dsimp only at hSw)
        (try (obtain ⟨_, _, _, _, _, _, _⟩ := hSw))
        (try (obtain ⟨_, _⟩ := hSw))
        go_simp
        (try with_reducible rfl)
      (try simp only [Act.put, List.setIfInBounds_toArray, List.set_cons_zero, List.set_cons_succ])
      refine wpAnyH_take (i := 11) (v := ?_) rfl (by kernel_rfl) (by kernel_rfl) (by kernel_rfl) (fun _ _ _ h => h) (Or.inl ⟨by rfl, ?_⟩) (by assumption) ?_
      rotate_left
      · intro w hSw
        (try dsimp only at hSw)
        (try (obtain ⟨_, _, _, _, _, _, _⟩ := hSw))
        (try (obtain ⟨_, _⟩ := hSw))
        go_simp
        (try with_reducible rfl)
      (try simp only [Act.put, List.setIfInBounds_toArray, List.set_cons_zero, List.set_cons_succ])
      refine wpAnyH_take (i := 12) (v := ?_) rfl (by kernel_rfl) (by kernel_rfl) (by kernel_rfl) (fun _ _ _ h => h) (Or.inl ⟨by rfl, ?_⟩) (by assumption) ?_
      rotate_left
      · intro w hSw
        (try dsimp only at hSw)
        (try (obtain ⟨_, _, _, _, _, _, _⟩ := hSw))
        (try (obtain ⟨_, _⟩ := hSw))
        go_simp
        (try with_reducible rfl)
      (try simp only [Act.put, List.setIfInBounds_toArray, List.set_cons_zero, List.set_cons_succ])
      refine wpAnyH_ready (rs := [13]) (by kernel_rfl) (by simp) ?_
      refine AllReadyH.cons rfl (fun K hK => ?_) AllReadyH.nil
      go_simp
      refine hK.out _ _ ⟨HD2.out.1, HD2.out.2⟩ (fun _ => ?_)
      clear hK K
      refine wpAnyH_done (by kernel_rfl) ?_ _
      go_wp2_with fail
      go_roundw
      case rel => exact ⟨i + 1, by omega, by have := HI1.out; go_num, HV2, hb2.out⟩
      case measure => simp [intOf]; omega
    · have hge : (n : Int) ≤ (i : Int) := by omega
      have HVS : Hid (Vec wr Sm (smL acc n)) := by
        have h := HV.out
        rwa [show i = n by omega] at h
      have HBS : Hid (Below w.heap.size w wr) := (HB0.out.trans (HB1.out.mono HZ0.out)).trans (hb.mono HZ0.out)
      have HSZ : Hid (Sm < wr.heap.size) := HVS.out.lt
      clear HV hb HV1 HB1 HS1 HO0 hSm hi hlt
      obtain ⟨Wa, hWa⟩ : ∃ W, W = wr := ⟨_, rfl⟩
      subst hWa
      go_wp2_with (at_make; refine wpList_makeSS _ rfl _ _ rfl N rfl rfl (by omega) ?_; intro W2 hv2 hb2)
      have HP0 : Hid (PG W2 Wa.heap.size Wa.heap.size N 0 (fun _ => 0) (fun _ _ => NoC)) := PG.new _ _ hv2 (Nat.le_refl _)
      have HWO : Hid (w.heap.size ≤ Wa.heap.size) := HBS.out.size
      have HB2 : Hid (Below Wa.heap.size Wa W2) := hb2
      clear hv2 hb2
      generalize hO : Wa.heap.size = O at *
      go_loopw [10] (fun iv wx => ∃ (i : Nat) (rows : Nat → Nat), i ≤ N ∧ iv = .int .i64 (i : Int) ∧ Hid (PG wx O O N i rows (fun _ _ => NoC)) ∧ Below O W2 wx) (fun iv _ => N - (intOf iv).toNat)
      case atStart => exact ⟨0, _, Nat.zero_le _, rfl, HP0, Below.refl _ _⟩
      case round =>
        obtain ⟨i, rows, hi, rfl, HP, hb⟩ := hrel
        obtain ⟨Wx, hWx⟩ : ∃ W, W = wr := ⟨_, rfl⟩
        subst hWx
        by_cases hlt : i < N
        · have hlt' : (i : Int) ≤ (n : Int) := by have := HNN.out; omega
          have hltN : (i : Int) < (N : Int) := by omega
          have HR : Hid (O < Wx.heap.size ∧ ∀ j, j < i → rows j < Wx.heap.size) := HP.out.lt
          have hOR : O < Wx.heap.size := HR.out.1
          have HLO : Hid (O ≤ Wx.heap.size) := Nat.le_trans HP.out.lo.1 (Nat.le_of_lt hOR)
          go_wp2_with (at_make; refine wpList_makeVec _ rfl _ _ rfl N rfl rfl (by omega) ?_; intro W3 hv3 hb3; have HP3 : Hid (PG W3 O O N i rows (fun _ _ => NoC)) := HP.out.later hb3; have HV3 : Hid (Vec W3 Wx.heap.size (List.replicate N 0)) := hv3; have HB3 : Hid (Below O W2 W3) := hb.trans (hb3.mono (Nat.le_of_lt hOR)); have c3 := (HP3.out.outerAny hlt).1; obtain ⟨u3, c3⟩ := c3; have f3 := (HP3.out.outerAny hlt).2; clear hv3 hb3)
          obtain ⟨R, hR⟩ : ∃ R, Wx.heap.size = R := ⟨_, rfl⟩
          rw [hR] at HV3 HR HLO hOR ⊢
          have HP4 : Hid (PG (W3.setCell ⟨O, i, none⟩ (sl1 R N)) O O N i rows (fun _ _ => NoC)) := (HP3.out.head hlt R).1
          have HC4 : Hid ((W3.setCell ⟨O, i, none⟩ (sl1 R N)).cell? ⟨O, i, none⟩ = some (sl1 R N)) := (HP3.out.head hlt R).2
          have HV4 : Hid (Vec (W3.setCell ⟨O, i, none⟩ (sl1 R N)) R (mix N 0 NoC)) := by show Vec _ _ _; rw [mix_zero]; exact HV3.out.other (by omega) _
          have HB4 : Hid (Below O W2 (W3.setCell ⟨O, i, none⟩ (sl1 R N))) := HB3.out.setCell (p := ⟨O, i, none⟩) (Nat.le_refl _) _
          clear HP3 HV3 HB3 c3 f3 hR HP hb
          go_wp2_with fail
          generalize W3.setCell ⟨O, i, none⟩ (sl1 R N) = W4 at *
          go_loopw [11] (fun kv wr => ∃ k : Nat, k ≤ N ∧ kv = .int .i64 (k : Int) ∧ Hid (PG wr O O N i rows (fun _ _ => NoC)) ∧ Hid (wr.cell? ⟨O, i, none⟩ = some (sl1 R N)) ∧ Hid (Vec wr R (mix N k NoC)) ∧ Below O W2 wr) (fun kv _ => N - (intOf kv).toNat)
          case atStart => exact ⟨0, Nat.zero_le _, rfl, HP4, HC4, HV4, HB4.out⟩
          case round =>
            clear HP4 HC4 HV4 HB4
            obtain ⟨k, hk, rfl, HP, HC, HV, hb⟩ := hrel
            by_cases hkl : k < N
            · have hkl' : (k : Int) ≤ (n : Int) := by have := HNN.out; omega
              have hkN : (k : Int) < (N : Int) := by omega
              have c5 := HC.out
              obtain ⟨u6, c6⟩ : ∃ u, wr.cell? ⟨R, k, none⟩ = some u := ⟨_, HV.out.cell (j := k) (by rw [mix_len _ _ _ hk]; exact hkl)⟩
              have f6 : wr.frozen? ⟨R, k, none⟩ = false := HV.out.frozen _
              have HP5 : Hid (PG (wr.setCell ⟨R, k, none⟩ (.int .i64 4611686018427387904)) O O N i rows (fun _ _ => NoC)) := HP.out.other (by omega) (fun j hj => by have := HR.out.2 j hj; omega) _
              have HC5 : Hid ((wr.setCell ⟨R, k, none⟩ (.int .i64 4611686018427387904)).cell? ⟨O, i, none⟩ = some (sl1 R N)) := by show _ = _; rw [World.cell?_setCell_other _ _ _ _ (by simp <;> omega)]; exact HC.out
              have HV5 : Hid (Vec (wr.setCell ⟨R, k, none⟩ (.int .i64 4611686018427387904)) R (mix N (k + 1) NoC)) := by
                have h := HV.out.set k NoC
                rw [mix_set _ _ _ hkl] at h
                exact h
              have HB5 : Hid (Below O W2 (wr.setCell ⟨R, k, none⟩ (.int .i64 4611686018427387904))) := hb.setCell (p := ⟨R, k, none⟩) (Nat.le_of_lt hOR) _
              clear HP HC HV hb
              go_wp2_with fail
              go_roundw
              case rel => exact ⟨k + 1, by omega, by go_num, HP5, HC5, HV5, HB5.out⟩
              case measure => simp [intOf]; omega
            · have hge2 : (n : Int) < (k : Int) := by have := HNN.out; omega
              have HP6 : Hid (PG wr O O N (i + 1) (fun j => if j = i then R else rows j) (fun _ _ => NoC)) := by
                have h := HV.out
                rw [show k = N by omega, mix_end] at h
                exact HP.out.add hlt HC.out (by omega) (fun j hj => by have := HR.out.2 j hj; omega) HLO.out NoC h (fun _ _ => rfl)
              clear HP HC HV
              go_wp2_with fail
              go_roundw
              case rel => exact ⟨i + 1, _, by omega, by go_num, HP6, hb⟩
              case measure => simp [intOf]; omega
        · have hge : (n : Int) < (i : Int) := by have := HNN.out; omega
          have hge3 : decide (i ≤ n) = false := decide_eq_false (by have := HNN.out; omega)
          have HPF : Hid (PG Wx O O N N rows (fun _ _ => NoC)) := by
            have h := HP.out
            rwa [show i = N by omega] at h
          have HBF : Hid (Below O W2 Wx) := hb
          clear HP hb hi hlt HP0
          have HSO : Hid (Sm < O) := HSZ.out
          have HVW : Hid (Vec Wx Sm (smL acc n)) := (HVS.out.later HB2.out HSO.out).later HBF.out HSO.out
          have HBW : Hid (Below w.heap.size w Wx) := (HBS.out.trans (HB2.out.mono HWO.out)).trans (HBF.out.mono HWO.out)
          have hN0 : 0 < N := by omega
          have hN1 : 1 < N := by have := HNN.out; omega
          have c7 := HPF.out.outer hN0
          obtain ⟨c8, f8⟩ := HPF.out.cell (j := 0) (b := 1) hN0 hN1
          have HP8 : Hid (PG (Wx.setCell ⟨rows 0, 1, none⟩ (.int .i64 0)) w.heap.size O N N rows (fun p q => if p = 0 ∧ q = 1 then 0 else NoC)) := (HPF.out.put hN0 hN1 0).base HWO.out
          have HT8 : Hid (Tab s n 0 (fun p q => if p = 0 ∧ q = 1 then 0 else NoC)) := tab_zero s n _ (fun _ _ _ _ => rfl)
          have HV8 : Hid (Vec (Wx.setCell ⟨rows 0, 1, none⟩ (.int .i64 0)) Sm (smL acc n)) := HVW.out.other (by have h := HPF.out.lo.2 0 hN0; have := HSO.out; omega) _
          have HB8 : Hid (Below w.heap.size w (Wx.setCell ⟨rows 0, 1, none⟩ (.int .i64 0))) := HBW.out.setCell (p := ⟨rows 0, 1, none⟩) (Nat.le_trans HWO.out (HPF.out.lo.2 0 hN0)) _
          have hN0' : (0 : Int) < (N : Int) := by omega
          have hN1' : (1 : Int) < (N : Int) := by omega
          clear HBS HVS HBW HVW HB2 HBF HPF
          go_wp2_with fail
          generalize Wx.setCell ⟨rows 0, 1, none⟩ (.int .i64 0) = W8 at *
          clear c7 c8 f8
          go_loopw [9, 12] (fun cv dv wr => ∃ (dep O : Nat) (rows : Nat → Nat) (T : Nat → Nat → Nat), 1 ≤ dep ∧ dep ≤ L + 1 ∧ cv = sl1 O N ∧ dv = .int .i64 (dep : Int) ∧ Hid (PG wr w.heap.size O N N rows T) ∧ Hid (Tab s n (dep - 1) T) ∧ Hid (Vec wr Sm (smL acc n)) ∧ Below w.heap.size w wr) (fun _ dv _ => L + 1 - (intOf dv).toNat)
          case atStart => exact ⟨1, O, rows, _, Nat.le_refl _, by omega, rfl, rfl, HP8, HT8, HV8, HB8.out⟩
          case round =>
            clear HP8 HT8 HV8 HB8
            obtain ⟨dep, P, prow, T, hd1, hd2, rfl, rfl, HP, HT, HV, hb⟩ := hrel
            obtain ⟨Wd, hWd⟩ : ∃ W, W = wr := ⟨_, rfl⟩
            subst hWd
            by_cases hdl : dep ≤ L
            · have hdl' : (dep : Int) ≤ (L : Int) := by omega
              go_wp2_with (at_make; refine wpList_makeSS _ rfl _ _ rfl N rfl rfl (by omega) ?_; intro W5 hv5 hb5)
              have HP0 : Hid (PG W5 Wd.heap.size Wd.heap.size N 0 (fun _ => 0) (fun _ _ => NoC)) := PG.new _ _ hv5 (Nat.le_refl _)
              have HWQ : Hid (w.heap.size ≤ Wd.heap.size) := hb.size
              have HBX : Hid (Below w.heap.size w Wd) := hb
              have HPL : Hid (P < Wd.heap.size ∧ ∀ j, j < N → prow j < Wd.heap.size) := HP.out.lt
              have HSQ : Hid (Sm < Wd.heap.size) := HV.out.lt
              have hP2 : P < Wd.heap.size := HPL.out.1
              have HB5 : Hid (Below Wd.heap.size Wd W5) := hb5
              clear hv5 hb5
              generalize hQ2 : Wd.heap.size = Q2 at *
              go_loopw [14] (fun iv wx => ∃ (i : Nat) (rows : Nat → Nat), i ≤ N ∧ iv = .int .i64 (i : Int) ∧ Hid (PG wx Q2 Q2 N i rows (fun _ _ => NoC)) ∧ Below Q2 W5 wx) (fun iv _ => N - (intOf iv).toNat)
              case atStart => exact ⟨0, _, Nat.zero_le _, rfl, HP0, Below.refl _ _⟩
              case round =>
                obtain ⟨i, rows, hi, rfl, HP, hb⟩ := hrel
                obtain ⟨Wx, hWx⟩ : ∃ W, W = wr := ⟨_, rfl⟩
                subst hWx
                by_cases hlt : i < N
                · have hlt' : (i : Int) ≤ (n : Int) := by have := HNN.out; omega
                  have hltN : (i : Int) < (N : Int) := by omega
                  have HR : Hid (Q2 < Wx.heap.size ∧ ∀ j, j < i → rows j < Wx.heap.size) := HP.out.lt
                  have hOR : Q2 < Wx.heap.size := HR.out.1
                  have HLO : Hid (Q2 ≤ Wx.heap.size) := Nat.le_trans HP.out.lo.1 (Nat.le_of_lt hOR)
                  go_wp2_with (at_make; refine wpList_makeVec _ rfl _ _ rfl N rfl rfl (by omega) ?_; intro W3 hv3 hb3; have HP3 : Hid (PG W3 Q2 Q2 N i rows (fun _ _ => NoC)) := HP.out.later hb3; have HV3 : Hid (Vec W3 Wx.heap.size (List.replicate N 0)) := hv3; have HB3 : Hid (Below Q2 W5 W3) := hb.trans (hb3.mono (Nat.le_of_lt hOR)); have c3 := (HP3.out.outerAny hlt).1; obtain ⟨u3, c3⟩ := c3; have f3 := (HP3.out.outerAny hlt).2; clear hv3 hb3)
                  obtain ⟨R, hR⟩ : ∃ R, Wx.heap.size = R := ⟨_, rfl⟩
                  rw [hR] at HV3 HR HLO hOR ⊢
                  have HP4 : Hid (PG (W3.setCell ⟨Q2, i, none⟩ (sl1 R N)) Q2 Q2 N i rows (fun _ _ => NoC)) := (HP3.out.head hlt R).1
                  have HC4 : Hid ((W3.setCell ⟨Q2, i, none⟩ (sl1 R N)).cell? ⟨Q2, i, none⟩ = some (sl1 R N)) := (HP3.out.head hlt R).2
                  have HV4 : Hid (Vec (W3.setCell ⟨Q2, i, none⟩ (sl1 R N)) R (mix N 0 NoC)) := by show Vec _ _ _; rw [mix_zero]; exact HV3.out.other (by omega) _
                  have HB4 : Hid (Below Q2 W5 (W3.setCell ⟨Q2, i, none⟩ (sl1 R N))) := HB3.out.setCell (p := ⟨Q2, i, none⟩) (Nat.le_refl _) _
                  clear HP3 HV3 HB3 c3 f3 hR HP hb
                  go_wp2_with fail
                  generalize W3.setCell ⟨Q2, i, none⟩ (sl1 R N) = W4 at *
                  go_loopw [15] (fun kv wr => ∃ k : Nat, k ≤ N ∧ kv = .int .i64 (k : Int) ∧ Hid (PG wr Q2 Q2 N i rows (fun _ _ => NoC)) ∧ Hid (wr.cell? ⟨Q2, i, none⟩ = some (sl1 R N)) ∧ Hid (Vec wr R (mix N k NoC)) ∧ Below Q2 W5 wr) (fun kv _ => N - (intOf kv).toNat)
                  case atStart => exact ⟨0, Nat.zero_le _, rfl, HP4, HC4, HV4, HB4.out⟩
                  case round =>
                    clear HP4 HC4 HV4 HB4
                    obtain ⟨k, hk, rfl, HP, HC, HV, hb⟩ := hrel
                    by_cases hkl : k < N
                    · have hkl' : (k : Int) ≤ (n : Int) := by have := HNN.out; omega
                      have hkN : (k : Int) < (N : Int) := by omega
                      have c5 := HC.out
                      obtain ⟨u6, c6⟩ : ∃ u, wr.cell? ⟨R, k, none⟩ = some u := ⟨_, HV.out.cell (j := k) (by rw [mix_len _ _ _ hk]; exact hkl)⟩
                      have f6 : wr.frozen? ⟨R, k, none⟩ = false := HV.out.frozen _
                      have HP5 : Hid (PG (wr.setCell ⟨R, k, none⟩ (.int .i64 4611686018427387904)) Q2 Q2 N i rows (fun _ _ => NoC)) := HP.out.other (by omega) (fun j hj => by have := HR.out.2 j hj; omega) _
                      have HC5 : Hid ((wr.setCell ⟨R, k, none⟩ (.int .i64 4611686018427387904)).cell? ⟨Q2, i, none⟩ = some (sl1 R N)) := by show _ = _; rw [World.cell?_setCell_other _ _ _ _ (by simp <;> omega)]; exact HC.out
                      have HV5 : Hid (Vec (wr.setCell ⟨R, k, none⟩ (.int .i64 4611686018427387904)) R (mix N (k + 1) NoC)) := by
                        have h := HV.out.set k NoC
                        rw [mix_set _ _ _ hkl] at h
                        exact h
                      have HB5 : Hid (Below Q2 W5 (wr.setCell ⟨R, k, none⟩ (.int .i64 4611686018427387904))) := hb.setCell (p := ⟨R, k, none⟩) (Nat.le_of_lt hOR) _
                      clear HP HC HV hb
                      go_wp2_with fail
                      go_roundw
                      case rel => exact ⟨k + 1, by omega, by go_num, HP5, HC5, HV5, HB5.out⟩
                      case measure => simp [intOf]; omega
                    · have hge2 : (n : Int) < (k : Int) := by have := HNN.out; omega
                      have HP6 : Hid (PG wr Q2 Q2 N (i + 1) (fun j => if j = i then R else rows j) (fun _ _ => NoC)) := by
                        have h := HV.out
                        rw [show k = N by omega, mix_end] at h
                        exact HP.out.add hlt HC.out (by omega) (fun j hj => by have := HR.out.2 j hj; omega) HLO.out NoC h (fun _ _ => rfl)
                      clear HP HC HV
                      go_wp2_with fail
                      go_roundw
                      case rel => exact ⟨i + 1, _, by omega, by go_num, HP6, hb⟩
                      case measure => simp [intOf]; omega
                · have hge : (n : Int) < (i : Int) := by have := HNN.out; omega
                  have hge3 : decide (i ≤ n) = false := decide_eq_false (by have := HNN.out; omega)
                  have HPF : Hid (PG Wx Q2 Q2 N N rows (fun _ _ => NoC)) := by
                    have h := HP.out
                    rwa [show i = N by omega] at h
                  have HBF : Hid (Below Q2 W5 Wx) := hb
                  clear HP hb hi hlt HP0
                  have hPO : P < Q2 := hP2
                  have HPP : Hid (PG Wx w.heap.size P N N prow T) := (HP.out.below HB5.out HPL.out.1 HPL.out.2).below HBF.out HPL.out.1 HPL.out.2
                  have HVV : Hid (Vec Wx Sm (smL acc n)) := (HV.out.later HB5.out HSQ.out).later HBF.out HSQ.out
                  have hnN : n < N := by have := HNN.out; omega
                  have hnN' : (n : Int) < (N : Int) := by omega
                  obtain ⟨dx, hdx⟩ : ∃ d, dep = d + 1 := ⟨dep - 1, by omega⟩
                  have HT2 : Hid (Tab s n dx T) := by
                    have h := HT.out
                    rwa [show dep - 1 = dx by omega] at h
                  have g1 := HPP.out.outer hnN
                  obtain ⟨g2, _⟩ := HPP.out.cell (j := n) (b := 0) hnN hN0
                  have g3 := HPF.out.outer hnN
                  obtain ⟨g4, f4⟩ := HPF.out.cell (j := n) (b := 0) hnN hN0
                  obtain ⟨tn, htn⟩ : ∃ x, T n 0 = x := ⟨_, rfl⟩
                  rw [htn] at g2
                  have HDB : Hid (dx * sumT s n ≤ 1288490188200) := by
                    have h3 : dx * sumT s n ≤ 15 * 85899345880 := Nat.mul_le_mul (by omega) HA.out
                    show _ ≤ _
                    omega
                  have HDA : Hid (dx * sumT s n < NoC) := by
                    have := HDB.out
                    show _ < _
                    unfold NoC
                    omega
                  have hdepb : (dep : Int) ≤ 15 := by omega
                  have HRQ : Hid (∀ j, j < N → Q2 ≤ rows j ∧ rows j ≠ Q2) := fun j hj => ⟨HPF.out.lo.2 j hj, HPF.out.ne j hj⟩
                  have hPr : prow n < Q2 := HPL.out.2 n hnN
                  have hrn := HRQ.out n hnN
                  have HS9 : Hid (((Wx.setCell ⟨rows n, 0, none⟩ (.int .i64 (tn : Int))).drew).cell? ⟨P, n, none⟩ = some (sl1 (prow n) N) ∧ ((Wx.setCell ⟨rows n, 0, none⟩ (.int .i64 (tn : Int))).drew).cell? ⟨prow n, 0, none⟩ = some (.int .i64 (tn : Int)) ∧ ((Wx.setCell ⟨rows n, 0, none⟩ (.int .i64 (tn : Int))).drew).cell? ⟨Q2, n, none⟩ = some (sl1 (rows n) N)) := by
                    refine ⟨?_, ?_, ?_⟩
                    · show (Wx.setCell ⟨rows n, 0, none⟩ (.int .i64 (tn : Int))).cell? _ = _; rw [World.cell?_setCell_other _ _ _ _ (by simp <;> omega)]; exact g1
                    · show (Wx.setCell ⟨rows n, 0, none⟩ (.int .i64 (tn : Int))).cell? _ = _; rw [World.cell?_setCell_other _ _ _ _ (by simp <;> omega)]; exact g2
                    · show (Wx.setCell ⟨rows n, 0, none⟩ (.int .i64 (tn : Int))).cell? _ = _; rw [World.cell?_setCell_other _ _ _ _ (by simp <;> omega)]; exact g3
                  have HP9 : Hid (PG ((Wx.setCell ⟨rows n, 0, none⟩ (.int .i64 (tn : Int))).drew) Q2 Q2 N N rows (fun p q => if p = n ∧ q = 0 then tn else NoC)) := (HPF.out.put hnN hN0 tn).later ((Below.refl _ _).drew)
                  have HR9 : Hid (Prt s n dx 0 1 0 (fun p q => if p = n ∧ q = 0 then tn else NoC)) := prt_start s n dx T _ HT2.out (fun a b _ _ => by rw [htn])
                  have HB9 : Hid (Below Q2 Wx ((Wx.setCell ⟨rows n, 0, none⟩ (.int .i64 (tn : Int))).drew)) := ((Below.refl _ _).setCell (p := ⟨rows n, 0, none⟩) hrn.1 _).drew
                  have HDX : Hid (dep = dx + 1) := hdx
                  clear hdx
                  have f4d : Wx.drew.frozen? ⟨rows n, 0, none⟩ = false := f4
                  have g4d : Wx.drew.cell? ⟨rows n, 0, none⟩ = some (.int .i64 ((NoC : Nat) : Int)) := g4
                  clear htn HPF HP HT HV
                  go_wp2_with fail
                  refine wp_region_held_drew (S := fun w' => w'.cell? ⟨P, n, none⟩ = some (sl1 (prow n) N) ∧ w'.cell? ⟨prow n, 0, none⟩ = some (.int .i64 (tn : Int)) ∧ w'.cell? ⟨Q2, n, none⟩ = some (sl1 (rows n) N)) (by kernel_rfl) ⟨g1, g2, g3⟩ (fun hHeld => ?_)
                  refine wpAnyH_take (i := 0) (v := ?_) rfl (by kernel_rfl) (by kernel_rfl) (by kernel_rfl) (fun _ _ _ h => h) (Or.inl ⟨by rfl, ?_⟩) (by assumption) ?_
                  rotate_left
                  · intro w hSw
                    (try dsimp only at hSw)
                    (try (obtain ⟨_, _, _, _, _, _, _⟩ := hSw))
                    (try (obtain ⟨_, _⟩ := hSw))
                    go_simp
                    (try with_reducible rfl)
                  (try simp only [Act.put, List.setIfInBounds_toArray, List.set_cons_zero, List.set_cons_succ])
                  refine wpAnyH_take (i := 1) (v := ?_) rfl (by kernel_rfl) (by kernel_rfl) (by kernel_rfl) (fun _ _ _ h => h) (Or.inl ⟨by rfl, ?_⟩) (by assumption) ?_
                  rotate_left
                  · intro w hSw
                    (try dsimp only at hSw)
                    (try (obtain ⟨_, _, _, _, _, _, _⟩ := hSw))
                    (try (obtain ⟨_, _⟩ := hSw))
                    go_simp
                    (try with_reducible rfl)
                  (try simp only [Act.put, List.setIfInBounds_toArray, List.set_cons_zero, List.set_cons_succ])
                  refine wpAnyH_take (i := 2) (v := ?_) rfl (by kernel_rfl) (by kernel_rfl) (by kernel_rfl) (fun _ _ _ h => h) (Or.inl ⟨by rfl, ?_⟩) (by assumption) ?_
                  rotate_left
                  · intro w hSw
                    (try dsimp only at hSw)
                    (try (obtain ⟨_, _, _, _, _, _, _⟩ := hSw))
                    (try (obtain ⟨_, _⟩ := hSw))
                    go_simp
                    (try with_reducible rfl)
                  (try simp only [Act.put, List.setIfInBounds_toArray, List.set_cons_zero, List.set_cons_succ])
                  refine wpAnyH_take (i := 3) (v := ?_) rfl (by kernel_rfl) (by kernel_rfl) (by kernel_rfl) (fun _ _ _ h => h) (Or.inl ⟨by rfl, ?_⟩) (by assumption) ?_
                  rotate_left
                  · intro w hSw
                    (try dsimp only at hSw)
                    (try (obtain ⟨_, _, _, _, _, _, _⟩ := hSw))
                    (try (obtain ⟨_, _⟩ := hSw))
                    go_simp
                    (try with_reducible rfl)
                  (try simp only [Act.put, List.setIfInBounds_toArray, List.set_cons_zero, List.set_cons_succ])
                  refine wpAnyH_take (i := 4) (v := ?_) rfl (by kernel_rfl) (by kernel_rfl) (by kernel_rfl) (fun _ _ _ h => h) (Or.inl ⟨by rfl, ?_⟩) (by assumption) ?_
                  rotate_left
                  · intro w hSw
                    (try dsimp only at hSw)
                    (try (obtain ⟨_, _, _, _, _, _, _⟩ := hSw))
                    (try (obtain ⟨_, _⟩ := hSw))
                    go_simp
                    (try with_reducible rfl)
                  (try simp only [Act.put, List.setIfInBounds_toArray, List.set_cons_zero, List.set_cons_succ])
                  refine wpAnyH_take (i := 5) (v := ?_) rfl (by kernel_rfl) (by kernel_rfl) (by kernel_rfl) (fun _ _ _ h => h) (Or.inl ⟨by rfl, ?_⟩) (by assumption) ?_
                  rotate_left
                  · intro w hSw
                    (try dsimp only at hSw)
                    (try (obtain ⟨_, _, _, _, _, _, _⟩ := hSw))
                    (try (obtain ⟨_, _⟩ := hSw))
                    go_simp
                    (try with_reducible rfl)
                  (try simp only [Act.put, List.setIfInBounds_toArray, List.set_cons_zero, List.set_cons_succ])
                  refine wpAnyH_take (i := 6) (v := ?_) rfl (by kernel_rfl) (by kernel_rfl) (by kernel_rfl) (fun _ _ _ h => h) (Or.inl ⟨by rfl, ?_⟩) (by assumption) ?_
                  rotate_left
                  · intro w hSw
                    (try dsimp only at hSw)
                    (try (obtain ⟨_, _, _, _, _, _, _⟩ := hSw))
                    (try (obtain ⟨_, _⟩ := hSw))
                    go_simp
                    (try with_reducible rfl)
                  (try simp only [Act.put, List.setIfInBounds_toArray, List.set_cons_zero, List.set_cons_succ])
                  refine wpAnyH_take (i := 7) (v := ?_) rfl (by kernel_rfl) (by kernel_rfl) (by kernel_rfl) (fun _ _ _ h => h) (Or.inl ⟨by rfl, ?_⟩) (by assumption) ?_
                  rotate_left
                  · intro w hSw
                    (try dsimp only at hSw)
                    (try (obtain ⟨_, _, _, _, _, _, _⟩ := hSw))
                    (try (obtain ⟨_, _⟩ := hSw))
                    go_simp
                    (try with_reducible rfl)
                  (try simp only [Act.put, List.setIfInBounds_toArray, List.set_cons_zero, List.set_cons_succ])
                  refine wpAnyH_take (i := 8) (v := ?_) rfl (by kernel_rfl) (by kernel_rfl) (by kernel_rfl) (fun _ _ _ h => h) (Or.inl ⟨by rfl, ?_⟩) (by assumption) ?_
                  rotate_left
                  · intro w hSw
                    (try dsimp only at hSw)
                    (try (obtain ⟨_, _, _, _, _, _, _⟩ := hSw))
                    (try (obtain ⟨_, _⟩ := hSw))
                    go_simp
                    (try with_reducible rfl)
                  (try simp only [Act.put, List.setIfInBounds_toArray, List.set_cons_zero, List.set_cons_succ])
                  refine wpAnyH_take (i := 9) (v := ?_) rfl (by kernel_rfl) (by kernel_rfl) (by kernel_rfl) (fun _ _ _ h => h) (Or.inl ⟨by rfl, ?_⟩) (by assumption) ?_
                  rotate_left
                  · intro w hSw
                    (try dsimp only at hSw)
                    (try (obtain ⟨_, _, _, _, _, _, _⟩ := hSw))
                    (try (obtain ⟨_, _⟩ := hSw))
                    go_simp
                    (try with_reducible rfl)
                  (try simp only [Act.put, List.setIfInBounds_toArray, List.set_cons_zero, List.set_cons_succ])
                  refine wpAnyH_take (i := 10) (v := ?_) rfl (by kernel_rfl) (by kernel_rfl) (by kernel_rfl) (fun _ _ _ h => h) (Or.inl ⟨by rfl, ?_⟩) (by assumption) ?_
                  rotate_left
                  · intro w hSw
                    (try dsimp only at hSw)
                    (try (obtain ⟨_, _, _, _, _, _, _⟩ := hSw))
                    (try (obtain ⟨_, _⟩ := hSw))
                    go_simp
                    (try with_reducible rfl)
                  (try simp only [Act.put, List.setIfInBounds_toArray, List.set_cons_zero, List.set_cons_succ])
                  refine wpAnyH_ready (rs := [11]) (by kernel_rfl) (by simp) ?_
                  refine AllReadyH.cons rfl (fun K hK => ?_) AllReadyH.nil
                  go_simp
                  refine hK.out _ _ HS9.out (fun _ => ?_)
                  clear hK K
                  refine wpAnyH_done (by kernel_rfl) ?_ _
                  generalize (Wx.setCell ⟨rows n, 0, none⟩ (.int .i64 (tn : Int))).drew = W9 at *
                  clear g1 g2 g3 g4 f4 g4d f4d HS9 hHeld
                  go_wp2_with fail
                  go_loopw [16] (fun iv wr => ∃ (i : Nat) (T1 : Nat → Nat → Nat), i ≤ n ∧ iv = .int .i64 (i : Int) ∧ Hid (PG wr Q2 Q2 N N rows T1) ∧ Hid (Prt s n dx i 1 0 T1) ∧ Below Q2 Wx wr) (fun iv _ => n - (intOf iv).toNat)
                  case atStart => exact ⟨0, _, Nat.zero_le _, rfl, HP9, HR9, HB9.out⟩
                  case round =>
                    clear HP9 HR9 HB9
                    obtain ⟨i, T1, hi, rfl, HP, HR, hb⟩ := hrel
                    by_cases hlt : i < n
                    · have hlt' : (i : Int) < (n : Int) := by omega
                      have hiN : i < N := by omega
                      have hiN' : (i : Int) < (N : Int) := by omega
                      go_wp2_with fail
                      go_loopw [17] (fun ov wr => ∃ (o : Nat) (T1 : Nat → Nat → Nat), 1 ≤ o ∧ o ≤ N ∧ ov = .int .i64 (o : Int) ∧ Hid (PG wr Q2 Q2 N N rows T1) ∧ Hid (Prt s n dx i o 0 T1) ∧ Below Q2 Wx wr) (fun ov _ => N - (intOf ov).toNat)
                      case atStart => exact ⟨1, T1, Nat.le_refl _, by omega, rfl, HP, HR, hb⟩
                      case round =>
                        clear HP HR hb
                        obtain ⟨o, T1, ho1, ho2, rfl, HP, HR, hb⟩ := hrel
                        by_cases hol : o < N
                        · have hol' : (o : Int) ≤ (n : Int) := by have := HNN.out; omega
                          have hoN' : (o : Int) < (N : Int) := by omega
                          have HPC : Hid (PG wr w.heap.size P N N prow T) := HPP.out.below hb HPL.out.1 HPL.out.2
                          have e1 := HPC.out.outer hiN
                          obtain ⟨e2, _⟩ := HPC.out.cell (j := i) (b := o) hiN hol
                          by_cases hne : T i o = NoC
                          · have e3 : wr.cell? ⟨prow i, o, none⟩ = some (.int .i64 4611686018427387904) := by rw [hne] at e2; exact e2
                            have HR2 : Hid (Prt s n dx i (o + 1) 0 T1) := prt_none s n dx i o T T1 (by omega) HT2.out HR.out hlt (by have := HNN.out; omega) hne HDA.out
                            clear e2 hne HPC HR
                            go_wp2_with fail
                            go_roundw
                            case rel => exact ⟨o + 1, T1, by omega, by omega, by go_num, HP, HR2, hb⟩
                            case measure => simp [intOf]; omega
                          · have HX : Hid (T i o ≤ 1288490188200) := by
                              have h := tab_small s n dx (by omega) T HT2.out i o (by omega) (by have := HNN.out; omega) hne
                              have h3 := HDB.out
                              show _ ≤ _
                              omega
                            have HNE : Hid (T i o ≠ NoC) := hne
                            obtain ⟨x, hx⟩ : ∃ x, T i o = x := ⟨_, rfl⟩
                            have HXX : Hid (T i o = x) := hx
                            rw [hx] at e2 HX
                            have hxb : (x : Int) ≤ 1288490188200 := by have := HX.out; omega
                            have hxn : ((x : Int) == 4611686018427387904) = false := by simp; omega
                            obtain ⟨TW, hTW⟩ : ∃ t, t = 2 * o := ⟨_, rfl⟩
                            have HTW : Hid (TW = 2 * o) := hTW
                            have htw : 2 * (o : Int) = (TW : Int) := by omega
                            have hTWb : (TW : Int) ≤ 82 := by omega
                            clear hne hx hTW HPC
                            go_wp2_with fail
                            clear e1 e2
                            go_loopw [19] (fun kv wr => ∃ (k : Nat) (T1 : Nat → Nat → Nat), k ≤ N ∧ kv = .int .i64 (k : Int) ∧ Hid (PG wr Q2 Q2 N N rows T1) ∧ Hid (Prt s n dx i o k T1) ∧ Below Q2 Wx wr) (fun kv _ => N - (intOf kv).toNat)
                            case atStart => exact ⟨0, T1, Nat.zero_le _, rfl, HP, HR, hb⟩
                            case round =>
                              clear HP HR hb
                              obtain ⟨k, T1, hk, rfl, HP, HR, hb⟩ := hrel
                              by_cases ck1 : k ≤ TW
                              · have ck1' : (k : Int) ≤ (TW : Int) := by omega
                                obtain ⟨IK, hIK⟩ : ∃ t, t = i + k := ⟨_, rfl⟩
                                have HIK : Hid (IK = i + k) := hIK
                                have hik : (i : Int) + (k : Int) = (IK : Int) := by omega
                                by_cases ck2 : IK ≤ n
                                · have ck2' : (IK : Int) ≤ (n : Int) := by omega
                                  obtain ⟨LF, hLF⟩ : ∃ t, t = TW - k := ⟨_, rfl⟩
                                  have HLF : Hid (LF = TW - k) := hLF
                                  have hlf : (TW : Int) - (k : Int) = (LF : Int) := by omega
                                  obtain ⟨NI, hNI⟩ : ∃ t, t = n - i := ⟨_, rfl⟩
                                  have hni : (n : Int) - (i : Int) = (NI : Int) := by omega
                                  obtain ⟨NK, hNK⟩ : ∃ t, t = NI - k := ⟨_, rfl⟩
                                  have hnk : (NI : Int) - (k : Int) = (NK : Int) := by omega
                                  have hNIb : (NI : Int) ≤ 41 := by omega
                                  have hNKb : (NK : Int) ≤ 41 := by omega
                                  have hLFb : (LF : Int) ≤ 82 := by omega
                                  have HNK : Hid (NK = n - (i + k)) := by show _ = _; omega
                                  have hk1 : k + 1 ≤ N := by omega
                                  by_cases cl : LF ≤ NK
                                  · have cl' : (LF : Int) ≤ (NK : Int) := by omega
                                    have hIKN : IK < N := by omega
                                    have hIKN' : (IK : Int) < (N : Int) := by omega
                                    have hLFN : LF < N := by have := HNN.out; omega
                                    have hLFN' : (LF : Int) < (N : Int) := by omega
                                    have HPC : Hid (PG wr w.heap.size P N N prow T) := HPP.out.below hb HPL.out.1 HPL.out.2
                                    have e1 := HPC.out.outer hiN
                                    obtain ⟨e2, _⟩ := HPC.out.cell (j := i) (b := o) hiN hol
                                    rw [HXX.out] at e2
                                    have HVW : Hid (Vec wr Sm (smL acc n)) := HVV.out.later hb HSQ.out
                                    have s1 : wr.cell? ⟨Sm, IK, none⟩ = some (.int .i64 (((acc.take IK).sum : Nat) : Int)) := by
                                      have h := HVW.out.cell (j := IK) (by rw [smL_len, HN.out]; omega)
                                      rwa [smL_get _ _ _ (by rw [HN.out]; omega) (by omega)] at h
                                    have s0 : wr.cell? ⟨Sm, i, none⟩ = some (.int .i64 (((acc.take i).sum : Nat) : Int)) := by
                                      have h := HVW.out.cell (j := i) (by rw [smL_len, HN.out]; omega)
                                      rwa [smL_get _ _ _ (by rw [HN.out]; omega) (by omega)] at h
                                    have z1 := HSUM.out IK ck2
                                    have z0 := HSUM.out i hi
                                    have b1 := HSB.out IK
                                    have b0 := HSB.out i
                                    have zm : sumT s (n - IK) ≤ sumT s (n - i) := sumT_le s (by omega)
                                    obtain ⟨Df, hDf⟩ : ∃ t, t = (acc.take IK).sum - (acc.take i).sum := ⟨_, rfl⟩
                                    obtain ⟨Pm, hPm⟩ : ∃ t, t = dep * Df := ⟨_, rfl⟩
                                    have hPmb : Pm ≤ 1288490188200 := by
                                      rw [hPm]
                                      have : dep * Df ≤ 15 * 85899345880 := Nat.mul_le_mul (by omega) (by omega)
                                      omega
                                    obtain ⟨C, hC⟩ : ∃ t, t = x + Pm := ⟨_, rfl⟩
                                    have HC : Hid (C = T i o + (dx + 1) * (sumT s (n - i) - sumT s (n - (i + k)))) := by
                                      show _ = _
                                      rw [HXX.out, hC, hPm, HDX.out, ← HIK.out]
                                      congr 2
                                      omega
                                    generalize (acc.take IK).sum = S1 at *
                                    generalize (acc.take i).sum = S0 at *
                                    have j1 : (S1 : Int) - (S0 : Int) = (Df : Int) := by omega
                                    have j2 : (dep : Int) * (Df : Int) = (Pm : Int) := by rw [hPm]; simp
                                    have j3 : (x : Int) + (Pm : Int) = (C : Int) := by omega
                                    have j1b : (S1 : Int) ≤ 85899345880 := by omega
                                    have j0b : (S0 : Int) ≤ 85899345880 := by omega
                                    have jDb : (Df : Int) ≤ 85899345880 := by omega
                                    have jPb : (Pm : Int) ≤ 1288490188200 := by omega
                                    have jCb : (C : Int) ≤ 2576980376400 := by omega
                                    have q1 : IntKind.i64.wrap (Df : Int) = (Df : Int) := by rw [IntKind.wrap_i64]; omega
                                    have q2 : IntKind.i64.wrap (Pm : Int) = (Pm : Int) := by rw [IntKind.wrap_i64]; omega
                                    have q3 : IntKind.i64.wrap (C : Int) = (C : Int) := by rw [IntKind.wrap_i64]; omega
                                    have q4 : IntKind.i64.wrap (IK : Int) = (IK : Int) := by rw [IntKind.wrap_i64]; omega
                                    clear hIK hLF hNI hNK hDf hPm hC z1 z0 b1 b0 zm HPC HVW
                                    go_wp2_with fail
                                    go_big_quiet (fail)
                                    have HPq : Hid (PG (wr.drewN nq) Q2 Q2 N N rows T1) := HP.out.later (drewN_below _ wr nq)
                                    have HBq : Hid (Below Q2 Wx (wr.drewN nq)) := hb.trans (drewN_below _ wr nq)
                                    generalize wr.drewN nq = wq at *
                                    have r1 : wq.drew.cell? ⟨Q2, IK, none⟩ = some (sl1 (rows IK) N) := HPq.out.outer hIKN
                                    obtain ⟨r2, r3⟩ := HPq.out.cell (j := IK) (b := LF) hIKN hLFN
                                    obtain ⟨y, hy⟩ : ∃ y, T1 IK LF = y := ⟨_, rfl⟩
                                    rw [hy] at r2
                                    have r2d : wq.drew.cell? ⟨rows IK, LF, none⟩ = some (.int .i64 (y : Int)) := r2
                                    have r3d : wq.drew.frozen? ⟨rows IK, LF, none⟩ = false := r3
                                    obtain ⟨Mn, hMn⟩ : ∃ z, z = min y C := ⟨_, rfl⟩
                                    have hmn : min (y : Int) (C : Int) = (Mn : Int) := by rw [hMn]; omega
                                    have hrI := HRQ.out IK hIKN
                                    have HS5 : Hid (((wq.setCell ⟨rows IK, LF, none⟩ (.int .i64 (Mn : Int))).drew).cell? ⟨Q2, IK, none⟩ = some (sl1 (rows IK) N)) := by
                                      show (wq.setCell ⟨rows IK, LF, none⟩ (.int .i64 (Mn : Int))).cell? _ = _
                                      rw [World.cell?_setCell_other _ _ _ _ (by simp <;> omega)]
                                      exact r1
                                    have HP5 : Hid (PG ((wq.setCell ⟨rows IK, LF, none⟩ (.int .i64 (Mn : Int))).drew) Q2 Q2 N N rows (fun p q => if p = IK ∧ q = LF then Mn else T1 p q)) := (HPq.out.put hIKN hLFN Mn).later ((Below.refl _ _).drew)
                                    have HB5' : Hid (Below Q2 Wx ((wq.setCell ⟨rows IK, LF, none⟩ (.int .i64 (Mn : Int))).drew)) := (HBq.out.setCell (p := ⟨rows IK, LF, none⟩) hrI.1 _).drew
                                    have HR5 : Hid (Prt s n dx i o (k + 1) (fun p q => if p = IK ∧ q = LF then Mn else T1 p q)) := by
                                      refine prt_put s n dx i o k T T1 HT2.out HR.out hlt ho1 (by have := HNN.out; omega) (by have := HTW.out; omega) (by have := HIK.out; omega) (by have := HTW.out; have := HLF.out; have := HNK.out; omega) HNE.out C HC.out _ ?_
                                      intro a b _ _
                                      have e5 : i + k = IK := HIK.out.symm
                                      have e6 : 2 * o - k = LF := by have := HTW.out; have := HLF.out; omega
                                      rw [e5, e6, hy, hMn]
                                    clear hMn hy HP HR hb HPq HBq HC
                                    go_wp2_with fail
                                    refine wp_region_held_drew (S := fun w' => w'.cell? ⟨Q2, IK, none⟩ = some (sl1 (rows IK) N)) (by kernel_rfl) r1 (fun hHeld => ?_)
                                    refine wpAnyH_take (i := 0) (v := ?_) rfl (by kernel_rfl) (by kernel_rfl) (by kernel_rfl) (fun _ _ _ h => h) (Or.inl ⟨by rfl, ?_⟩) (by assumption) ?_
                                    rotate_left
                                    · intro w hSw
                                      (try dsimp only at hSw)
                                      (try (obtain ⟨_, _, _, _, _, _, _⟩ := hSw))
                                      (try (obtain ⟨_, _⟩ := hSw))
                                      go_simp
                                      (try with_reducible rfl)
                                    (try simp only [Act.put, List.setIfInBounds_toArray, List.set_cons_zero, List.set_cons_succ])
                                    refine wpAnyH_take (i := 1) (v := ?_) rfl (by kernel_rfl) (by kernel_rfl) (by kernel_rfl) (fun _ _ _ h => h) (Or.inl ⟨by rfl, ?_⟩) (by assumption) ?_
                                    rotate_left
                                    · intro w hSw
                                      (try dsimp only at hSw)
                                      (try (obtain ⟨_, _, _, _, _, _, _⟩ := hSw))
                                      (try (obtain ⟨_, _⟩ := hSw))
                                      go_simp
                                      (try with_reducible rfl)
                                    (try simp only [Act.put, List.setIfInBounds_toArray, List.set_cons_zero, List.set_cons_succ])
                                    refine wpAnyH_take (i := 2) (v := ?_) rfl (by kernel_rfl) (by kernel_rfl) (by kernel_rfl) (fun _ _ _ h => h) (Or.inl ⟨by rfl, ?_⟩) (by assumption) ?_
                                    rotate_left
                                    · intro w hSw
                                      (try dsimp only at hSw)
                                      (try (obtain ⟨_, _, _, _, _, _, _⟩ := hSw))
                                      (try (obtain ⟨_, _⟩ := hSw))
                                      go_simp
                                      (try with_reducible rfl)
                                    (try simp only [Act.put, List.setIfInBounds_toArray, List.set_cons_zero, List.set_cons_succ])
                                    refine wpAnyH_take (i := 3) (v := ?_) rfl (by kernel_rfl) (by kernel_rfl) (by kernel_rfl) (fun _ _ _ h => h) (Or.inl ⟨by rfl, ?_⟩) (by assumption) ?_
                                    rotate_left
                                    · intro w hSw
                                      (try dsimp only at hSw)
                                      (try (obtain ⟨_, _, _, _, _, _, _⟩ := hSw))
                                      (try (obtain ⟨_, _⟩ := hSw))
                                      go_simp
                                      (try with_reducible rfl)
                                    (try simp only [Act.put, List.setIfInBounds_toArray, List.set_cons_zero, List.set_cons_succ])
                                    refine wpAnyH_take (i := 4) (v := ?_) rfl (by kernel_rfl) (by kernel_rfl) (by kernel_rfl) (fun _ _ _ h => h) (Or.inl ⟨by rfl, ?_⟩) (by assumption) ?_
                                    rotate_left
                                    · intro w hSw
                                      (try dsimp only at hSw)
                                      (try (obtain ⟨_, _, _, _, _, _, _⟩ := hSw))
                                      (try (obtain ⟨_, _⟩ := hSw))
                                      go_simp
                                      (try with_reducible rfl)
                                    (try simp only [Act.put, List.setIfInBounds_toArray, List.set_cons_zero, List.set_cons_succ])
                                    refine wpAnyH_take (i := 5) (v := ?_) rfl (by kernel_rfl) (by kernel_rfl) (by kernel_rfl) (fun _ _ _ h => h) (Or.inl ⟨by rfl, ?_⟩) (by assumption) ?_
                                    rotate_left
                                    · intro w hSw
                                      (try dsimp only at hSw)
                                      (try (obtain ⟨_, _, _, _, _, _, _⟩ := hSw))
                                      (try (obtain ⟨_, _⟩ := hSw))
                                      go_simp
                                      (try with_reducible rfl)
                                    (try simp only [Act.put, List.setIfInBounds_toArray, List.set_cons_zero, List.set_cons_succ])
                                    refine wpAnyH_take (i := 6) (v := ?_) rfl (by kernel_rfl) (by kernel_rfl) (by kernel_rfl) (fun _ _ _ h => h) (Or.inl ⟨by rfl, ?_⟩) (by assumption) ?_
                                    rotate_left
                                    · intro w hSw
                                      (try dsimp only at hSw)
                                      (try (obtain ⟨_, _, _, _, _, _, _⟩ := hSw))
                                      (try (obtain ⟨_, _⟩ := hSw))
                                      go_simp
                                      (try with_reducible rfl)
                                    (try simp only [Act.put, List.setIfInBounds_toArray, List.set_cons_zero, List.set_cons_succ])
                                    refine wpAnyH_take (i := 7) (v := ?_) rfl (by kernel_rfl) (by kernel_rfl) (by kernel_rfl) (fun _ _ _ h => h) (Or.inl ⟨by rfl, ?_⟩) (by assumption) ?_
                                    rotate_left
                                    · intro w hSw
                                      (try dsimp only at hSw)
                                      (try (obtain ⟨_, _, _, _, _, _, _⟩ := hSw))
                                      (try (obtain ⟨_, _⟩ := hSw))
                                      go_simp
                                      (try with_reducible rfl)
                                    (try simp only [Act.put, List.setIfInBounds_toArray, List.set_cons_zero, List.set_cons_succ])
                                    refine wpAnyH_take (i := 8) (v := ?_) rfl (by kernel_rfl) (by kernel_rfl) (by kernel_rfl) (fun _ _ _ h => h) (Or.inl ⟨by rfl, ?_⟩) (by assumption) ?_
                                    rotate_left
                                    · intro w hSw
                                      (try dsimp only at hSw)
                                      (try (obtain ⟨_, _, _, _, _, _, _⟩ := hSw))
                                      (try (obtain ⟨_, _⟩ := hSw))
                                      go_simp
                                      (try with_reducible rfl)
                                    (try simp only [Act.put, List.setIfInBounds_toArray, List.set_cons_zero, List.set_cons_succ])
                                    refine wpAnyH_take (i := 9) (v := ?_) rfl (by kernel_rfl) (by kernel_rfl) (by kernel_rfl) (fun _ _ _ h => h) (Or.inl ⟨by rfl, ?_⟩) (by assumption) ?_
                                    rotate_left
                                    · intro w hSw
                                      (try dsimp only at hSw)
                                      (try (obtain ⟨_, _, _, _, _, _, _⟩ := hSw))
                                      (try (obtain ⟨_, _⟩ := hSw))
                                      go_simp
                                      (try with_reducible rfl)
                                    (try simp only [Act.put, List.setIfInBounds_toArray, List.set_cons_zero, List.set_cons_succ])
                                    refine wpAnyH_take (i := 10) (v := ?_) rfl (by kernel_rfl) (by kernel_rfl) (by kernel_rfl) (fun _ _ _ h => h) (Or.inl ⟨by rfl, ?_⟩) (by assumption) ?_
                                    rotate_left
                                    · intro w hSw
                                      (try dsimp only at hSw)
                                      (try (obtain ⟨_, _, _, _, _, _, _⟩ := hSw))
                                      (try (obtain ⟨_, _⟩ := hSw))
                                      go_simp
                                      (try with_reducible rfl)
                                    (try simp only [Act.put, List.setIfInBounds_toArray, List.set_cons_zero, List.set_cons_succ])
                                    refine wpAnyH_take (i := 11) (v := ?_) rfl (by kernel_rfl) (by kernel_rfl) (by kernel_rfl) (fun _ _ _ h => h) (Or.inl ⟨by rfl, ?_⟩) (by assumption) ?_
                                    rotate_left
                                    · intro w hSw
                                      (try dsimp only at hSw)
                                      (try (obtain ⟨_, _, _, _, _, _, _⟩ := hSw))
                                      (try (obtain ⟨_, _⟩ := hSw))
                                      go_simp
                                      (try with_reducible rfl)
                                    (try simp only [Act.put, List.setIfInBounds_toArray, List.set_cons_zero, List.set_cons_succ])
                                    refine wpAnyH_take (i := 12) (v := ?_) rfl (by kernel_rfl) (by kernel_rfl) (by kernel_rfl) (fun _ _ _ h => h) (Or.inl ⟨by rfl, ?_⟩) (by assumption) ?_
                                    rotate_left
                                    · intro w hSw
                                      (try dsimp only at hSw)
                                      (try (obtain ⟨_, _, _, _, _, _, _⟩ := hSw))
                                      (try (obtain ⟨_, _⟩ := hSw))
                                      go_simp
                                      (try with_reducible rfl)
                                    (try simp only [Act.put, List.setIfInBounds_toArray, List.set_cons_zero, List.set_cons_succ])
                                    refine wpAnyH_take (i := 13) (v := ?_) rfl (by kernel_rfl) (by kernel_rfl) (by kernel_rfl) (fun _ _ _ h => h) (Or.inl ⟨by rfl, ?_⟩) (by assumption) ?_
                                    rotate_left
                                    · intro w hSw
                                      (try dsimp only at hSw)
                                      (try (obtain ⟨_, _, _, _, _, _, _⟩ := hSw))
                                      (try (obtain ⟨_, _⟩ := hSw))
                                      go_simp
                                      (try with_reducible rfl)
                                    (try simp only [Act.put, List.setIfInBounds_toArray, List.set_cons_zero, List.set_cons_succ])
                                    refine wpAnyH_take (i := 14) (v := ?_) rfl (by kernel_rfl) (by kernel_rfl) (by kernel_rfl) (fun _ _ _ h => h) (Or.inl ⟨by rfl, ?_⟩) (by assumption) ?_
                                    rotate_left
                                    · intro w hSw
                                      (try dsimp only at hSw)
                                      (try (obtain ⟨_, _, _, _, _, _, _⟩ := hSw))
                                      (try (obtain ⟨_, _⟩ := hSw))
                                      go_simp
                                      (try with_reducible rfl)
                                    (try simp only [Act.put, List.setIfInBounds_toArray, List.set_cons_zero, List.set_cons_succ])
                                    refine wpAnyH_take (i := 16) (v := ?_) rfl (by kernel_rfl) (by kernel_rfl) (by kernel_rfl) (fun _ _ _ h => h) (Or.inl ⟨by rfl, ?_⟩) (by assumption) ?_
                                    rotate_left
                                    · intro w hSw
                                      (try dsimp only at hSw)
                                      (try (obtain ⟨_, _, _, _, _, _, _⟩ := hSw))
                                      (try (obtain ⟨_, _⟩ := hSw))
                                      go_simp
                                      (try with_reducible rfl)
                                    (try simp only [Act.put, List.setIfInBounds_toArray, List.set_cons_zero, List.set_cons_succ])
                                    refine wpAnyH_ready (rs := [15]) (by kernel_rfl) (by simp) ?_
                                    refine AllReadyH.cons rfl (fun K hK => ?_) AllReadyH.nil
                                    go_simp
                                    refine hK.out _ _ r1 (fun _ => ?_)
                                    clear hK K
                                    (try simp only [Act.put, List.setIfInBounds_toArray, List.set_cons_zero, List.set_cons_succ])
                                    refine wpAnyH_take (i := 17) (v := ?_) rfl (by kernel_rfl) (by kernel_rfl) (by kernel_rfl) (fun _ _ _ h => h) (Or.inl ⟨by rfl, ?_⟩) (by assumption) ?_
                                    rotate_left
                                    · intro w hSw
                                      (try dsimp only at hSw)
                                      (try (obtain ⟨_, _, _, _, _, _, _⟩ := hSw))
                                      (try (obtain ⟨_, _⟩ := hSw))
                                      go_simp
                                      (try with_reducible rfl)
                                    (try simp only [Act.put, List.setIfInBounds_toArray, List.set_cons_zero, List.set_cons_succ])
                                    refine wpAnyH_take (i := 18) (v := ?_) rfl (by kernel_rfl) (by kernel_rfl) (by kernel_rfl) (fun _ _ _ h => h) (Or.inl ⟨by rfl, ?_⟩) (by assumption) ?_
                                    rotate_left
                                    · intro w hSw
                                      (try dsimp only at hSw)
                                      (try (obtain ⟨_, _, _, _, _, _, _⟩ := hSw))
                                      (try (obtain ⟨_, _⟩ := hSw))
                                      go_simp
                                      (try with_reducible rfl)
                                    (try simp only [Act.put, List.setIfInBounds_toArray, List.set_cons_zero, List.set_cons_succ])
                                    refine wpAnyH_ready (rs := [19]) (by kernel_rfl) (by simp) ?_
                                    refine AllReadyH.cons rfl (fun K hK => ?_) AllReadyH.nil
                                    go_simp
                                    refine hK.out _ _ HS5.out (fun _ => ?_)
                                    clear hK K
                                    refine wpAnyH_done (by kernel_rfl) ?_ _
                                    generalize (wq.setCell ⟨rows IK, LF, none⟩ (.int .i64 (Mn : Int))).drew = W7 at *
                                    clear r1 r2 r3 r2d r3d HS5 hHeld
                                    go_wp2_with fail
                                    go_roundw
                                    case rel => exact ⟨k + 1, _, hk1, by go_num, HP5, HR5, HB5'.out⟩
                                    case measure => simp [intOf]; omega
                                  · have cl' : (NK : Int) < (LF : Int) := by omega
                                    have HR2 : Hid (Prt s n dx i o (k + 1) T1) := prt_skip s n dx i o k T1 HR.out (by have := HTW.out; have := HLF.out; have := HNK.out; omega)
                                    clear hIK hLF hNI hNK HR
                                    go_wp2_with fail
                                    go_roundw
                                    case rel => exact ⟨k + 1, T1, hk1, by go_num, HP, HR2, hb⟩
                                    case measure => simp [intOf]; omega
                                · have ck2' : (n : Int) < (IK : Int) := by omega
                                  have HR2 : Hid (Prt s n dx i (o + 1) 0 T1) := prt_kend s n dx i o k T1 HR.out (by have := HIK.out; omega)
                                  clear hIK HR
                                  go_wp2_with fail
                                  go_roundw
                                  case rel => exact ⟨o + 1, T1, by omega, by omega, by go_num, HP, HR2, hb⟩
                                  case measure => simp [intOf]; omega
                              · have ck1' : (TW : Int) < (k : Int) := by omega
                                have HR2 : Hid (Prt s n dx i (o + 1) 0 T1) := prt_kend s n dx i o k T1 HR.out (by have := HTW.out; omega)
                                clear HR
                                go_wp2_with fail
                                go_roundw
                                case rel => exact ⟨o + 1, T1, by omega, by omega, by go_num, HP, HR2, hb⟩
                                case measure => simp [intOf]; omega
                        · have hol' : (n : Int) < (o : Int) := by have := HNN.out; omega
                          have HR2 : Hid (Prt s n dx (i + 1) 1 0 T1) := prt_oend s n dx i o T1 (by omega) HR.out (by have := HNN.out; omega)
                          clear HR
                          go_wp2_with fail
                          go_roundw
                          case rel => exact ⟨i + 1, T1, by omega, by go_num, HP, HR2, hb⟩
                          case measure => simp [intOf]; omega
                    · have hge : (n : Int) ≤ (i : Int) := by omega
                      have HT9 : Hid (Tab s n (dep + 1 - 1) T1) := by
                        have h := prt_end s n dx i T1 HR.out (by omega)
                        rw [show dep + 1 - 1 = dx + 1 by have := HDX.out; omega]
                        exact h
                      have HVE : Hid (Vec wr Sm (smL acc n)) := HVV.out.later hb HSQ.out
                      have HBE : Hid (Below w.heap.size w wr) := (HBX.out.trans (HB5.out.mono HWQ.out)).trans ((HBF.out.trans hb).mono HWQ.out)
                      have HPE : Hid (PG wr w.heap.size Q2 N N rows T1) := HP.out.base HWQ.out
                      clear HR HP hb
                      go_wp2_with fail
                      go_roundw
                      case rel => exact ⟨dep + 1, Q2, rows, T1, by omega, by omega, rfl, by go_num, HPE, HT9, HVE, HBE.out⟩
                      case measure => simp [intOf]; omega
            · have hdl' : (L : Int) < (dep : Int) := by omega
              have HE : Hid (T n 0 = sumT (stp s (L - 1)) (2 * n - 2)) := by
                have h := HT.out
                rw [show dep - 1 = L by omega] at h
                refine HTL.out T ?_ h
                have h3 : L * sumT s n ≤ 15 * 85899345880 := Nat.mul_le_mul hL2 HA.out
                unfold NoC
                omega
              have hnN : n < N := by have := HNN.out; omega
              have hnN' : (n : Int) < (N : Int) := by omega
              have e1 := HP.out.outer hnN
              obtain ⟨e2, _⟩ := HP.out.cell (j := n) (b := 0) hnN hN0
              clear HP HT HV HTL
              go_wp2_with fail
              exact QOK _ _ HE hb
end Go.Proofs.Ytfcjnpbnejaolaa
