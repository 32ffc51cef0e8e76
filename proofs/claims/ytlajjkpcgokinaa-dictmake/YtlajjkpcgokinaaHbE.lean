/-
  A run's bytes: run.pack, run.bytes.
-/
import Derived.Test.YtlajjkpcgokinaaHbD
import Derived.Test.YtlajjkpcgokinaaBRUnp
import Derived.Deep.RegionHeld3
import Derived.Test.YtlajjkpcgokinaaBox
namespace Go.Proofs.Ytlajjkpcgokinaa
set_option linter.unusedVariables false
set_option linter.unusedSimpArgs false
open Go.ChangeShapes Go.WideShapes Go.ChangeAt Go.RowKit

theorem row_baseE {W : World} {n m : Nat} {e : TypeId} {size : Nat} {v : Value} {k : Nat} {xs : List Value} (h : W.ownsRow n e size v k xs) (hm : m ≤ n) : W.ownsRow m e size v k xs := by
  refine ⟨h.1, ?_⟩
  rcases h.2 with h | ⟨g, cap, cur, h1, h2, h3, h4⟩
  · exact .inl h
  · exact .inr ⟨g, cap, cur, h1, by omega, h3, h4⟩
theorem made_zero64 (n : Nat) : (madeCells (Value.int .u64 0).cells (n * 1)).toList = List.replicate n (Value.int .u64 0) := made_zero .u64 n
theorem fill_step {w wr : World} {B g j N : Nat} {zs : List Int} {e : TypeId} (hj : j < N) (hjl : j < zs.length)
    (hown : wr.ownsRow B e 1 (.slice (some ⟨g, 0, none⟩) N N) N ((zs.take j ++ List.replicate (N - j) 0).map (Value.int .u64))) (hnx : Below B w wr) (hg : B ≤ g) :
    (wr.setCell ⟨g, j, none⟩ (.int .u64 (zs.getD j 0))).ownsRow B e 1 (.slice (some ⟨g, 0, none⟩) N N) N ((zs.take (j + 1) ++ List.replicate (N - (j + 1)) 0).map (Value.int .u64)) ∧
      Below B w (wr.setCell ⟨g, j, none⟩ (.int .u64 (zs.getD j 0))) := by
  refine ⟨?_, hnx.setCell (p := ⟨g, j, none⟩) hg _⟩
  have e := (hown.stored j (.int .u64 (zs.getD j 0))).1
  rw [← List.map_set, show N - j = (N - (j + 1)) + 1 from by omega] at e
  have e2 := set_mid (zs.take j) 0 (zs.getD j 0) (N - (j + 1))
  rw [List.length_take, Nat.min_eq_left (by omega)] at e2
  rw [e2] at e
  rw [List.take_succ_eq_append_getElem hjl]
  simpa [List.getD, List.getElem?_eq_getElem hjl] using e
theorem fit_u64 {W : Nat} (hW : W ≤ 32) {zs : List Int} (h : FitI W zs) : U64 zs ∧ wide W zs = false := by
  have hp : 2 ^ W ≤ 2 ^ 32 := Nat.pow_le_pow_right (by omega) hW
  refine ⟨fun z hz => by have := h z hz; omega, ?_⟩
  unfold wide
  rw [List.any_eq_false]
  intro z hz
  have h1 := h z hz
  have := (fits_iff z.toNat W (by omega) (by omega)).2 h1.2
  simp [wide1]
  omega
theorem sze_of {W L : Nat} (hW : W ≤ 32) (hL : L ≤ 80000) : sze W L = 0 := by
  have h : L * W ≤ 80000 * 32 := Nat.mul_le_mul hL hW
  have h2 : (L : Int) * (W : Int) ≤ 2560000 := by rw [← Int.natCast_mul]; omega
  exact (sze_ok (wd := (W : Int)) (ct := (L : Int)) (by omega) (by omega) (by omega)).1
theorem runB_pack (W : Nat) (l : List Int) : (runB W (true, l)).map (Value.int .u8) = (vb ((2 * grp l.length + 1 : Nat) : Int)).map (Value.int .u8) ++ c8 (upk 8 (grp l.length * W) (pk W (nats (filled l)))) := by
  rw [c8_ints, ← List.map_append]
  rfl
theorem runB_pack_len (W : Nat) (l : List Int) : (runB W (true, l)).length = (vb ((2 * grp l.length + 1 : Nat) : Int)).length + grp l.length * W := by
  show (vb ((2 * grp l.length + 1 : Nat) : Int) ++ ints (upk 8 (grp l.length * W) (pk W (nats (filled l))))).length = _
  rw [List.length_append, ints, List.length_map, upk_len]

set_option maxRecDepth 100000 in
set_option maxHeartbeats 4000000 in
theorem rpk_any (a : Option Addr) (n c W : Nat) (l : List Int) (w : World) (hn1 : 1 ≤ n) (hn : n ≤ 70000) (hW : W ≤ 32) (hs : SrcI w a n c l) (hf : FitI W l) (b : Bool) :
    Calls Try.prog 42 #[.agg #[.bool b, .slice a n c], .int .i64 W] w fun e w' => ∃ v, e = .returned v ∧ w'.ownsRow w.heap.size 5 1 v (runB W (true, l)).length ((runB W (true, l)).map (Value.int .u8)) ∧ Below w.heap.size w w' := by
  obtain ⟨i0, hi, hz0, hz1, hz2⟩ := info_parts Try.info5
  obtain ⟨j0, hj, jz0, jz1, jz2⟩ := info_parts Try.info52
  have hll : l.length = n := by simpa using hs.1
  rw [runB_pack, runB_pack_len, hll]
  have hfl := filled_len l
  rw [hll] at hfl
  have HFI : Hid (filled l = l ++ List.replicate (8 * grp n - n) 0) := by show _ = _; rw [← hll]; rfl
  have hg1 : 1 ≤ grp n := by unfold grp; omega
  have hg2 : 8 * grp n ≤ n + 7 := by unfold grp; omega
  have hg3 : n ≤ 8 * grp n := by unfold grp; omega
  have hu := fit_u64 hW hf.filled
  have GC := fun W' => groupsOf_any n (by omega) W'
  generalize grp n = G at *
  obtain ⟨N, hN⟩ : ∃ N, N = 8 * G := ⟨_, rfl⟩
  obtain ⟨V, hV⟩ : ∃ V, V = 2 * G + 1 := ⟨_, rfl⟩
  have hS : G * W = (N * W + 7) / 8 := by rw [hN, Nat.mul_assoc]; omega
  have hN2 : (G : Int) * 8 = (N : Int) := by omega
  have hV2 : 2 * (G : Int) + 1 = (V : Int) := by omega
  have hwV : IntKind.u64.wrap (V : Int) = (V : Int) := by rw [IntKind.wrap_u64]; omega
  rw [← hV]
  rw [← hN] at hg2 hg3 HFI hfl
  have B0 := alloc_below w (.cells #[.bool b, .slice a n c] 62)
  obtain ⟨S, hSd⟩ : ∃ S, S = G * W := ⟨_, rfl⟩
  rw [← hSd] at hS ⊢
  have hSl : S ≤ 300000 := by rw [hSd]; have := Nat.mul_le_mul (show G ≤ 8751 by omega) hW; omega
  have PK := fun ad W' (h : Src W' ad N N ((filled l).map (Value.int .u64))) => pack_yes ad N N W S (filled l) W' h hu.1 hu.2 (sze_of hW (by omega)) hS
  have HF64 : Hid (∀ z ∈ l, IntKind.u64.wrap z = z) := fun z hz => by
    have h1 := hf z hz
    have hp : 2 ^ W ≤ 2 ^ 32 := Nat.pow_le_pow_right (by omega) hW
    rw [IntKind.wrap_u64]
    omega
  have hn' : (n : Int) ≤ 70000 := by omega
  have hG' : (G : Int) ≤ 8751 := by omega
  have hV1 := vb_len (V : Int)
  have VC := fun W' => varint_any (V : Int) W' (by omega) (by omega)
  clear hS hSd hu hf hN hV
  go_enter Try.func42, Try.ntmps42
  go_wp2_with (first | (go_at_call 54; refine (GC _).mono ?_; rintro e wx ⟨rfl, hwx⟩; obtain rfl := hwx.symm) | (at_make; go_loud (refine wpList_make_full _ rfl _ _ 67 rfl (w.heap.size + 1) 52 j0 (.int .u64 0) 1 Try.underlying67 hj jz0 jz1 _ _ _ _ N rfl rfl rfl rfl (by rw [jz2]; omega) (by unfold maxLen; omega) (by simp) ?_); intro w1 hown1 hgrow1; have B1 : Below (w.heap.size + 1) (w.alloc (.cells #[.bool b, .slice a n c] 62)) w1 := (Below.refl _ _).grown hgrow1 (by simp) (fun _ e => by cases e); have hx1 : w1.cell? ⟨w.heap.size, 1, none⟩ = some (.slice a n c) := box_cell B1 (j := 1) rfl))
  have B01 : Below w.heap.size w w1 := B0.trans (B1.mono (Nat.le_succ _))
  have hsz1 : w.heap.size + 1 ≤ w1.heap.size := by have := B1.size; simpa using this
  rw [made_zero64] at hown1
  have hown1' : w1.ownsRow (w.heap.size + 1) 52 1 (.slice (some ⟨w.heap.size + 1, 0, none⟩) N N) N ((l.take 0 ++ List.replicate (N - 0) 0).map (Value.int .u64)) := by simpa using hown1
  clear hown1 hgrow1
  go_loopw [21] (fun s wr => ∃ i : Nat, s = .int .i64 (i : Int) ∧ i ≤ n ∧ Hid (wr.ownsRow (w.heap.size + 1) 52 1 (.slice (some ⟨w.heap.size + 1, 0, none⟩) N N) N ((l.take i ++ List.replicate (N - i) 0).map (Value.int .u64))) ∧ Below (w.heap.size + 1) w1 wr) (fun s _ => n - (intOf s).toNat)
  case atStart => exact ⟨0, rfl, Nat.zero_le _, hown1', Below.refl _ _⟩
  case round =>
    obtain ⟨i, rfl, hin, HO, hb⟩ := hrel
    clear hown1'
    have hbw : Below w.heap.size w wr := B01.trans (hb.mono (Nat.le_succ _))
    have hszr : w.heap.size + 1 ≤ wr.heap.size := Nat.le_trans hsz1 hb.size
    by_cases hlt : i < n
    · have hlt' : (i : Int) < (n : Int) := by omega
      have hiN : (i : Int) < (N : Int) := by omega
      obtain ⟨g, off, rfl, hcz⟩ := src_atI (hs.later hbw) hlt
      have hw := HF64.out _ (getD_mem (zs := l) (i := i) (by omega))
      have hcj : wr.cell? ⟨w.heap.size + 1, i, none⟩ = some (.int .u64 0) := by
        rw [HO.out.cellAt i (by omega)]
        rw [List.getElem?_map, List.getElem?_append_right (by rw [List.length_take]; omega), List.length_take, Nat.min_eq_left (by omega), Nat.sub_self, List.getElem?_replicate, if_pos (by omega)]
        rfl
      have hfj := HO.out.frozenAt i
      have R : Hid _ := fill_step (j := i) (N := N) (by omega) (by omega) HO.out hb (Nat.le_refl _)
      generalize l.getD i 0 = z at *
      go_wp2_with fail
      go_roundw
      case rel => exact ⟨i + 1, by go_num, by omega, R.out.1, R.out.2⟩
      case measure => simp [intOf]; omega
    · have hge : (n : Int) ≤ (i : Int) := by omega
      have hin2 : i = n := by omega
      have HSF : Hid (Src wr (some ⟨w.heap.size + 1, 0, none⟩) N N ((filled l).map (Value.int .u64))) := by
        have h := (src_own HO.out).2
        rw [hin2, List.take_of_length_le (by omega)] at h
        rw [HFI.out]
        exact h
      have PKC := PK _ wr HSF.out
      clear HF64 HFI hin2
      go_wp2_with (first | (go_at_call 55; refine PKC.mono ?_; rintro e w2 ⟨v2, rfl, hown2, hb2⟩; obtain ⟨a2, c2, rfl⟩ := own_sl hown2; have hbw2 : Below w.heap.size w w2 := hbw.trans (hb2.mono hbw.size)) | (go_at_call 45; refine (VC _).mono ?_; rintro e w3 ⟨v3, rfl, hown3, hb3⟩; obtain ⟨a3, c3, rfl⟩ := own_sl hown3; have hbw3 : Below w.heap.size w w3 := hbw2.trans (hb3.mono hbw2.size); have hs2 := (src_own hown2).2.later hb3; have hown3' := row_baseE hown3 (show w.heap.size ≤ w2.heap.size from hbw2.size); have hsz3 : w.heap.size ≤ w3.heap.size := hbw3.size) | (at_builtin; go_loud (refine wpList_append_src rfl (.tmp 42) (.tmp 43) 34 rfl w.heap.size 5 i0 (.int .u8 0) 1 Try.underlying34 hi hz0 hz1 hz2 rfl (.slice a3 (vb (V : Int)).length c3) _ _ rfl hown3' a2 S c2 _ rfl hs2 (c8_one _) (by unfold maxLen; omega) (by omega) hsz3 ?_); intro v4 w4 hown4 hb4))
      go_ret
      exact ⟨_, rfl, hown4, hbw3.trans hb4⟩
theorem runB_rep (W : Nat) (l : List Int) : (runB W (false, l)).map (Value.int .u8) = (vb ((2 * l.length : Nat) : Int)).map (Value.int .u8) ++ (lb ((W + 7) / 8) (l.getD 0 0)).map (Value.int .u8) := by
  rw [← List.map_append]
  rfl
theorem runB_rep_len (W : Nat) (l : List Int) : (runB W (false, l)).length = (vb ((2 * l.length : Nat) : Int)).length + (W + 7) / 8 := by
  show (vb ((2 * l.length : Nat) : Int) ++ lb ((W + 7) / 8) (l.getD 0 0)).length = _
  rw [List.length_append, lb_len]

set_option maxRecDepth 100000 in
set_option maxHeartbeats 4000000 in
theorem rby_any (a : Option Addr) (n c W : Nat) (l : List Int) (w : World) (hn1 : 1 ≤ n) (hn : n ≤ 70000) (hW : W ≤ 32) (hs : SrcI w a n c l) (hf : FitI W l) (b : Bool) :
    Calls Try.prog 28 #[.agg #[.bool b, .slice a n c], .int .i64 W] w fun e w' => ∃ v, e = .returned v ∧ w'.ownsRow w.heap.size 5 1 v (runB W (b, l)).length ((runB W (b, l)).map (Value.int .u8)) ∧ Below w.heap.size w w' := by
  obtain ⟨i0, hi, hz0, hz1, hz2⟩ := info_parts Try.info5
  have hll : l.length = n := by simpa using hs.1
  have B0 := alloc_below w (.cells #[.bool b, .slice a n c] 62)
  have hX := heap_new w (.cells #[.bool b, .slice a n c] 62 (0, 0))
  cases b with
  | true =>
    have PK := rpk_any a n c W l (w.alloc (.cells #[.bool true, .slice a n c] 62)) hn1 hn hW (hs.later B0) hf true
    go_enter Try.func28, Try.ntmps28
    go_wp2_with (go_at_call 42; refine PK.mono ?_; rintro e w2 ⟨v2, rfl, hown2, hb2⟩)
    go_ret
    exact ⟨_, rfl, row_baseE hown2 (by simp), B0.trans (hb2.mono (by simp))⟩
  | false =>
    obtain ⟨g, off, rfl, hcz⟩ := src_atI hs (i := 0) (by omega)
    rw [runB_rep, runB_rep_len, hll]
    have hfz := hf _ (getD_mem (zs := l) (i := 0) (by omega))
    generalize l.getD 0 0 = z at *
    have hp : 2 ^ W ≤ 2 ^ 32 := Nat.pow_le_pow_right (by omega) hW
    obtain ⟨KB, hKB⟩ : ∃ KB, KB = (W + 7) / 8 := ⟨_, rfl⟩
    have hno : ¬ ltlNo z KB := by
      have := (fits_iff z.toNat W (by omega) (by omega)).2 hfz.2
      unfold ltlNo
      omega
    have BC := fun W' => bytesOf_any W hW W'
    rw [← hKB] at BC ⊢
    have LC := fun W' => little_yes z KB W' (by omega) (by omega) hno
    have hwz : IntKind.u64.wrap z = z := by rw [IntKind.wrap_u64]; omega
    obtain ⟨V, hV⟩ : ∃ V, V = 2 * n := ⟨_, rfl⟩
    have hV2 : 2 * (n : Int) = (V : Int) := by omega
    have hwV : IntKind.u64.wrap (V : Int) = (V : Int) := by rw [IntKind.wrap_u64]; omega
    rw [← hV]
    have hV1 := vb_len (V : Int)
    have VC := fun W' => varint_any (V : Int) W' (by omega) (by omega)
    have hKl : KB ≤ 4 := by omega
    have hn' : (n : Int) ≤ 70000 := by omega
    have hn1' : (0 : Int) < (n : Int) := by omega
    have hn0 : 0 < n := hn1
    clear hno hp hfz hV hf hs hKB
    go_enter Try.func28, Try.ntmps28
    go_wp2_with fail
    generalize (w.alloc (.cells #[.bool false, .slice (some ⟨g, off, none⟩) n c] 62)) = W0 at *
    have hg : g < w.heap.size := World.block_lt_of_cell? _ _ hcz
    have hb0 : w.heap.size < W0.heap.size := lt_of_heap hX
    have HF : Hid (∀ W, Below (w.heap.size + 1) W0 W → W.cell? ⟨w.heap.size, 1, none⟩ = some (.slice (some ⟨g, off, none⟩) n c) ∧ W.cell? ⟨g, off, none⟩ = some (.int .i64 z)) := fun W h => by
      have e := (h.block w.heap.size (by omega)).trans hX
      refine ⟨cell_of_block e (j := 1) rfl, ?_⟩
      have h1 := cell_later (B0.trans (h.mono (Nat.le_succ _))) hcz
      simpa using h1
    have hS0 : Below (w.heap.size + 1) W0 W0.drew := (Below.refl _ _).drew
    refine wp_region_held_drew (S := fun W => Below (w.heap.size + 1) W0 W) (by kernel_rfl) hS0 (fun hHeld => ?_)
    clear hHeld
    have hD : w.heap.size < W0.drew.heap.size := by simpa using hb0
    generalize W0.drew = D at *
    refine wpAnyH_take (i := 0) (v := ?_) rfl (by kernel_rfl) (by kernel_rfl) (by kernel_rfl) (fun _ _ _ h => h) (Or.inl ⟨by rfl, ?_⟩) (by assumption) ?_
    rotate_left
    · intro w hSw
      have hSx := HF.out w hSw
      (try (obtain ⟨_, _, _, _, _, _, _, _⟩ := hSx))
      (try (obtain ⟨_, _, _, _⟩ := hSx))
      (try (obtain ⟨_, _, _⟩ := hSx))
      (try (obtain ⟨_, _⟩ := hSx))
      go_simp
      (try with_reducible rfl)
    (try simp only [Act.put, List.setIfInBounds_toArray, List.set_cons_zero, List.set_cons_succ])
    refine wpAnyH_take (i := 1) (v := ?_) rfl (by kernel_rfl) (by kernel_rfl) (by kernel_rfl) (fun _ _ _ h => h) (Or.inl ⟨by rfl, ?_⟩) (by assumption) ?_
    rotate_left
    · intro w hSw
      have hSx := HF.out w hSw
      (try (obtain ⟨_, _, _, _, _, _, _, _⟩ := hSx))
      (try (obtain ⟨_, _, _, _⟩ := hSx))
      (try (obtain ⟨_, _, _⟩ := hSx))
      (try (obtain ⟨_, _⟩ := hSx))
      go_simp
      (try with_reducible rfl)
    (try simp only [Act.put, List.setIfInBounds_toArray, List.set_cons_zero, List.set_cons_succ])
    refine wpAnyH_take (i := 2) (v := ?_) rfl (by kernel_rfl) (by kernel_rfl) (by kernel_rfl) (fun _ _ _ h => h) (Or.inl ⟨by rfl, ?_⟩) (by assumption) ?_
    rotate_left
    · intro w hSw
      have hSx := HF.out w hSw
      (try (obtain ⟨_, _, _, _, _, _, _, _⟩ := hSx))
      (try (obtain ⟨_, _, _, _⟩ := hSx))
      (try (obtain ⟨_, _, _⟩ := hSx))
      (try (obtain ⟨_, _⟩ := hSx))
      go_simp
      (try with_reducible rfl)
    (try simp only [Act.put, List.setIfInBounds_toArray, List.set_cons_zero, List.set_cons_succ])
    refine wpAnyH_take (i := 3) (v := ?_) rfl (by kernel_rfl) (by kernel_rfl) (by kernel_rfl) (fun _ _ _ h => h) (Or.inl ⟨by rfl, ?_⟩) (by assumption) ?_
    rotate_left
    · intro w hSw
      have hSx := HF.out w hSw
      (try (obtain ⟨_, _, _, _, _, _, _, _⟩ := hSx))
      (try (obtain ⟨_, _, _, _⟩ := hSx))
      (try (obtain ⟨_, _, _⟩ := hSx))
      (try (obtain ⟨_, _⟩ := hSx))
      go_simp
      (try with_reducible rfl)
    (try simp only [Act.put, List.setIfInBounds_toArray, List.set_cons_zero, List.set_cons_succ])
    refine wpAnyH_take (i := 4) (v := ?_) rfl (by kernel_rfl) (by kernel_rfl) (by kernel_rfl) (fun _ _ _ h => h) (Or.inl ⟨by rfl, ?_⟩) (by assumption) ?_
    rotate_left
    · intro w hSw
      have hSx := HF.out w hSw
      (try (obtain ⟨_, _, _, _, _, _, _, _⟩ := hSx))
      (try (obtain ⟨_, _, _, _⟩ := hSx))
      (try (obtain ⟨_, _, _⟩ := hSx))
      (try (obtain ⟨_, _⟩ := hSx))
      go_simp
      (try with_reducible rfl)
    (try simp only [Act.put, List.setIfInBounds_toArray, List.set_cons_zero, List.set_cons_succ])
    refine wpAnyH_take (i := 5) (v := ?_) rfl (by kernel_rfl) (by kernel_rfl) (by kernel_rfl) (fun _ _ _ h => h) (Or.inl ⟨by rfl, ?_⟩) (by assumption) ?_
    rotate_left
    · intro w hSw
      have hSx := HF.out w hSw
      (try (obtain ⟨_, _, _, _, _, _, _, _⟩ := hSx))
      (try (obtain ⟨_, _, _, _⟩ := hSx))
      (try (obtain ⟨_, _, _⟩ := hSx))
      (try (obtain ⟨_, _⟩ := hSx))
      go_simp
      (try with_reducible rfl)
    (try simp only [Act.put, List.setIfInBounds_toArray, List.set_cons_zero, List.set_cons_succ])
    refine wpAnyH_ready (rs := [6]) (by kernel_rfl) (by simp) ?_
    refine AllReadyH.cons rfl (fun K hK => ?_) AllReadyH.nil
    go_simp
    refine (BC D).mono ?_
    rintro e wx ⟨rfl, hwx⟩
    subst hwx
    go_simp
    refine hK.out _ _ hS0 (fun _ => ?_)
    clear hK K
    (try simp only [Act.put, List.setIfInBounds_toArray, List.set_cons_zero, List.set_cons_succ])
    refine wpAnyH_ready (rs := [7]) (by kernel_rfl) (by simp) ?_
    refine AllReadyH.cons rfl (fun K hK => ?_) AllReadyH.nil
    go_simp
    refine (LC wx).mono ?_
    rintro e W1 ⟨v1, rfl, hown1, hb1⟩
    obtain ⟨a1, c1, rfl⟩ := own_sl hown1
    have hS1 : Below (w.heap.size + 1) W0 W1 := hS0.trans (hb1.mono (by omega))
    go_simp
    refine hK.out _ _ hS1 (fun _ => ?_)
    clear hK K
    (try simp only [Act.put, List.setIfInBounds_toArray, List.set_cons_zero, List.set_cons_succ])
    refine wpAnyH_take (i := 8) (v := ?_) rfl (by kernel_rfl) (by kernel_rfl) (by kernel_rfl) (fun _ _ _ h => h) (Or.inl ⟨by rfl, ?_⟩) (by assumption) ?_
    rotate_left
    · intro w hSw
      have hSx := HF.out w hSw
      (try (obtain ⟨_, _, _, _, _, _, _, _⟩ := hSx))
      (try (obtain ⟨_, _, _, _⟩ := hSx))
      (try (obtain ⟨_, _, _⟩ := hSx))
      (try (obtain ⟨_, _⟩ := hSx))
      go_simp
      (try with_reducible rfl)
    (try simp only [Act.put, List.setIfInBounds_toArray, List.set_cons_zero, List.set_cons_succ])
    refine wpAnyH_take (i := 9) (v := ?_) rfl (by kernel_rfl) (by kernel_rfl) (by kernel_rfl) (fun _ _ _ h => h) (Or.inl ⟨by rfl, ?_⟩) (by assumption) ?_
    rotate_left
    · intro w hSw
      have hSx := HF.out w hSw
      (try (obtain ⟨_, _, _, _, _, _, _, _⟩ := hSx))
      (try (obtain ⟨_, _, _, _⟩ := hSx))
      (try (obtain ⟨_, _, _⟩ := hSx))
      (try (obtain ⟨_, _⟩ := hSx))
      go_simp
      (try with_reducible rfl)
    (try simp only [Act.put, List.setIfInBounds_toArray, List.set_cons_zero, List.set_cons_succ])
    refine wpAnyH_take (i := 10) (v := ?_) rfl (by kernel_rfl) (by kernel_rfl) (by kernel_rfl) (fun _ _ _ h => h) (Or.inl ⟨by rfl, ?_⟩) (by assumption) ?_
    rotate_left
    · intro w hSw
      have hSx := HF.out w hSw
      (try (obtain ⟨_, _, _, _, _, _, _, _⟩ := hSx))
      (try (obtain ⟨_, _, _, _⟩ := hSx))
      (try (obtain ⟨_, _, _⟩ := hSx))
      (try (obtain ⟨_, _⟩ := hSx))
      go_simp
      (try with_reducible rfl)
    (try simp only [Act.put, List.setIfInBounds_toArray, List.set_cons_zero, List.set_cons_succ])
    refine wpAnyH_take (i := 11) (v := ?_) rfl (by kernel_rfl) (by kernel_rfl) (by kernel_rfl) (fun _ _ _ h => h) (Or.inl ⟨by rfl, ?_⟩) (by assumption) ?_
    rotate_left
    · intro w hSw
      have hSx := HF.out w hSw
      (try (obtain ⟨_, _, _, _, _, _, _, _⟩ := hSx))
      (try (obtain ⟨_, _, _, _⟩ := hSx))
      (try (obtain ⟨_, _, _⟩ := hSx))
      (try (obtain ⟨_, _⟩ := hSx))
      go_simp
      (try with_reducible rfl)
    (try simp only [Act.put, List.setIfInBounds_toArray, List.set_cons_zero, List.set_cons_succ])
    refine wpAnyH_take (i := 12) (v := ?_) rfl (by kernel_rfl) (by kernel_rfl) (by kernel_rfl) (fun _ _ _ h => h) (Or.inl ⟨by rfl, ?_⟩) (by assumption) ?_
    rotate_left
    · intro w hSw
      have hSx := HF.out w hSw
      (try (obtain ⟨_, _, _, _, _, _, _, _⟩ := hSx))
      (try (obtain ⟨_, _, _, _⟩ := hSx))
      (try (obtain ⟨_, _, _⟩ := hSx))
      (try (obtain ⟨_, _⟩ := hSx))
      go_simp
      (try with_reducible rfl)
    (try simp only [Act.put, List.setIfInBounds_toArray, List.set_cons_zero, List.set_cons_succ])
    refine wpAnyH_done (by kernel_rfl) ?_ _
    have hx1 := HF.out W1 hS1
    have hbw1 : Below w.heap.size w W1 := B0.trans (hS1.mono (Nat.le_succ _))
    obtain ⟨hx1, _⟩ := hx1
    clear HF hX hcz
    go_wp2_with (first | (go_at_call 45; refine (VC _).mono ?_; rintro e w3 ⟨v3, rfl, hown3, hb3⟩; obtain ⟨a3, c3, rfl⟩ := own_sl hown3; have hbw3 : Below w.heap.size w w3 := hbw1.trans (hb3.mono hbw1.size); have hs2 := (src_own hown1).2.later hb3; have hown3' := row_baseE hown3 (show w.heap.size ≤ W1.heap.size from hbw1.size); have hsz3 : w.heap.size ≤ w3.heap.size := hbw3.size) | (at_builtin; go_loud (refine wpList_append_src rfl (.tmp 28) (.tmp 29) 34 rfl w.heap.size 5 i0 (.int .u8 0) 1 Try.underlying34 hi hz0 hz1 hz2 rfl (.slice a3 (vb (V : Int)).length c3) _ _ rfl hown3' a1 KB c1 _ rfl hs2 (ints_one _ _) (by unfold maxLen; omega) (by omega) hsz3 ?_); intro v4 w4 hown4 hb4))
    go_ret
    exact ⟨_, rfl, hown4, hbw3.trans hb4⟩
end Go.Proofs.Ytlajjkpcgokinaa
