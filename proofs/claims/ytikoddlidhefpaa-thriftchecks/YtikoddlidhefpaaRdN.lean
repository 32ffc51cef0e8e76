/-
  A map: the way on which values are taken.
-/
import Derived.Test.YtikoddlidhefpaaRdM
namespace Go.Proofs.Ytikoddlidhefpaa
set_option linter.unusedVariables false
set_option linter.unusedSimpArgs false
open Go.ChangeShapes Go.WideShapes Go.ChangeAt Go.RowKit Go.Deep

set_option maxRecDepth 10000 in
set_option maxHeartbeats 1000000 in
theorem dict_main (w0 w : World) (R m : Nat) (bs : List Nat) (room : Int) (P : Int → List Nat → RV) (h : Rd w0 w R m bs room) (hw : Ways w R m)
    (HP : ∀ (k : Int) (v : Value) (W : World), wayOk k room = true → Ways W R m → WayIs W R k v → WayOf w0 W R m room v (P k)) (n b : Nat) (r : List Nat) (hnum : rNum 0 65536 bs = .ok (n, b :: r)) (hn0 : ¬ n = 0) : TakesV 84 #[.pointer (some ⟨R, 0, none⟩)] w0 w R m room (rDict room P bs) := by
  intro Q QOK QNO
  obtain ⟨hab, hbz, hbv⟩ := dict_boxes w
  have hR := h.lt
  have hz := h.later hab
  have TN1 := (takeNumber_any w0 _ R m bs room 0 65536 (by omega) (by omega) hz).ok hnum
  have hn := rNum_le hnum
  have hn' : (n : Int) ≤ 65536 := by omega
  have hn0' : ¬ (n : Int) = 0 := by omega
  obtain ⟨y, hy⟩ : ∃ y, y = b / 16 := ⟨_, rfl⟩
  obtain ⟨k, hk⟩ : ∃ k, k = b % 16 := ⟨_, rfl⟩
  have HRES : Hid (rDict room P bs = if wayOk y room = false ∨ wayOk k room = false then .error false else match rRounds [P y, P k] n .nil r with
      | .error s => .error s
      | .ok (f, t) => .ok ((⟨11, y, k, 0, noText, []⟩, f), t)) := by
    show _ = _
    unfold rDict
    rw [hnum]
    simp only [if_neg hn0, rHalves]
    rw [hy, hk]
    rfl
  generalize rDict room P bs = res at *
  have hk16 : k < 16 := by omega
  have HY : Hid (y = b / 16 ∧ k = b % 16) := ⟨hy, hk⟩
  clear hy hk hnum hz
  go_enter Try.func84, Try.ntmps84
  go_wp2_with fail
  refine TN1.mono ?_
  rintro e W1 ⟨rfl, hrd1, hf1⟩
  have hb256 : b < 256 := hrd1.b8 b (List.mem_cons_self ..)
  have hy16 : y < 16 := by have := HY.out; omega
  have TH := (takeHalves_any w0 W1 R m (b :: r) room hrd1).ok (a := (b / 16, b % 16)) (rest := r) rfl
  dsimp only at TH
  rw [← HY.out.1, ← HY.out.2] at TH
  go_wp2_with fail
  refine TH.mono ?_
  rintro e W2 ⟨rfl, hrd2, hf2⟩
  have b2 := hf2.box (hf1.box hbv (by omega)) (show w.heap.size + 1 ≠ R by omega)
  have z2 := hf2.box (hf1.box hbz (by omega)) (show w.heap.size ≠ R by omega)
  have hw2 := ((RF.of_below hab).trans hf1).trans hf2
  obtain ⟨⟨b0, b1', b2', b3, b4, b5, b6⟩, c0, c1, c2, c3, c4, c5, c6⟩ := blk7 b2
  have O3 : Only (w.heap.size + 1) W2 ((W2.setCell ⟨w.heap.size + 1, 1, none⟩ (.int .i64 (y : Int))).setCell ⟨w.heap.size + 1, 2, none⟩ (.int .i64 (k : Int))) := ((Only.refl _ _).set _ _).set _ _
  have b3' : ((W2.setCell ⟨w.heap.size + 1, 1, none⟩ (.int .i64 (y : Int))).setCell ⟨w.heap.size + 1, 2, none⟩ (.int .i64 (k : Int))).heap[w.heap.size + 1]? = some (.cells #[.int .i64 11, .int .i64 (y : Int), .int .i64 (k : Int), .int .i64 0, .string { data := #[] }, .slice none 0 0, .slice none 0 0] 26 (0, 0)) := by
    have e := set_block (j := 2) (u := .int .i64 (k : Int)) (set_block (j := 1) (u := .int .i64 (y : Int)) b2)
    simp only [List.setIfInBounds_toArray, List.set_cons_zero, List.set_cons_succ] at e
    exact e
  have z3 : ((W2.setCell ⟨w.heap.size + 1, 1, none⟩ (.int .i64 (y : Int))).setCell ⟨w.heap.size + 1, 2, none⟩ (.int .i64 (k : Int))).heap[w.heap.size]? = some (.cells #[.int .i64 0, .int .i64 0, .int .i64 0, .int .i64 0, .string { data := #[] }, .slice none 0 0, .slice none 0 0] 26 (0, 0)) := by rw [O3.block _ (by omega)]; exact z2
  have hw3 := hw2.only O3 (Nat.le_succ _)
  have hrd3 := hrd2.only O3 (by omega)
  clear hbz hbv b2 z2 hrd1 hrd2 TN1 TH hf1 hf2 hab hw2
  go_wp2_with fail
  have s0 : ((W2.setCell ⟨w.heap.size + 1, 1, none⟩ (.int .i64 (y : Int))).setCell ⟨w.heap.size + 1, 2, none⟩ (.int .i64 (k : Int))).drew.cell? ⟨w.heap.size + 1, 1, none⟩ = some (.int .i64 (y : Int)) ∧ ((W2.setCell ⟨w.heap.size + 1, 1, none⟩ (.int .i64 (y : Int))).setCell ⟨w.heap.size + 1, 2, none⟩ (.int .i64 (k : Int))).drew.cell? ⟨w.heap.size + 1, 2, none⟩ = some (.int .i64 (k : Int)) := ⟨cell_of_block b3' rfl, cell_of_block b3' rfl⟩
  refine wp_region_held_drew (S := fun w' => w'.cell? ⟨w.heap.size + 1, 1, none⟩ = some (.int .i64 (y : Int)) ∧ w'.cell? ⟨w.heap.size + 1, 2, none⟩ = some (.int .i64 (k : Int))) (by kernel_rfl) s0 (fun hHeld => ?_)
  generalize hW3 : ((W2.setCell ⟨w.heap.size + 1, 1, none⟩ (.int .i64 (y : Int))).setCell ⟨w.heap.size + 1, 2, none⟩ (.int .i64 (k : Int))) = W3 at *
  refine wpAnyH_take (i := 0) (v := ?_) rfl (by kernel_rfl) (by kernel_rfl) (by kernel_rfl) (fun _ _ _ h => h) (Or.inl ⟨by rfl, ?_⟩) (by assumption) ?_
  rotate_left
  · intro w hSw
    (try dsimp only at hSw)
    (try (obtain ⟨_, _, _, _, _, _, _⟩ := hSw))
    (try (obtain ⟨_, _⟩ := hSw))
    go_simp
    (try with_reducible rfl)
  (try simp only [Act.put, List.setIfInBounds_toArray, List.set_cons_zero, List.set_cons_succ])
  refine wpAnyH_take (i := 1) (v := ?_) rfl (by kernel_rfl) (by kernel_rfl) (by kernel_rfl) (fun _ _ _ h => h) (Or.inl ⟨by rfl, ?_⟩) (by assumption) ?_
  rotate_left
  · intro w hSw
    (try dsimp only at hSw)
    (try (obtain ⟨_, _, _, _, _, _, _⟩ := hSw))
    (try (obtain ⟨_, _⟩ := hSw))
    go_simp
    (try with_reducible rfl)
  (try simp only [Act.put, List.setIfInBounds_toArray, List.set_cons_zero, List.set_cons_succ])
  refine wpAnyH_take (i := 2) (v := ?_) rfl (by kernel_rfl) (by kernel_rfl) (by kernel_rfl) (fun _ _ _ h => h) (Or.inl ⟨by rfl, ?_⟩) (by assumption) ?_
  rotate_left
  · intro w hSw
    (try dsimp only at hSw)
    (try (obtain ⟨_, _, _, _, _, _, _⟩ := hSw))
    (try (obtain ⟨_, _⟩ := hSw))
    go_simp
    (try with_reducible rfl)
  (try simp only [Act.put, List.setIfInBounds_toArray, List.set_cons_zero, List.set_cons_succ])
  refine wpAnyH_take (i := 3) (v := ?_) rfl (by kernel_rfl) (by kernel_rfl) (by kernel_rfl) (fun _ _ _ h => h) (Or.inl ⟨by rfl, ?_⟩) (by assumption) ?_
  rotate_left
  · intro w hSw
    (try dsimp only at hSw)
    (try (obtain ⟨_, _, _, _, _, _, _⟩ := hSw))
    (try (obtain ⟨_, _⟩ := hSw))
    go_simp
    (try with_reducible rfl)
  (try simp only [Act.put, List.setIfInBounds_toArray, List.set_cons_zero, List.set_cons_succ])
  refine wpAnyH_take (i := 5) (v := ?_) rfl (by kernel_rfl) (by kernel_rfl) (by kernel_rfl) (fun _ _ _ h => h) (Or.inl ⟨by rfl, ?_⟩) (by assumption) ?_
  rotate_left
  · intro w hSw
    (try dsimp only at hSw)
    (try (obtain ⟨_, _, _, _, _, _, _⟩ := hSw))
    (try (obtain ⟨_, _⟩ := hSw))
    go_simp
    (try with_reducible rfl)
  (try simp only [Act.put, List.setIfInBounds_toArray, List.set_cons_zero, List.set_cons_succ])
  refine wpAnyH_take (i := 6) (v := ?_) rfl (by kernel_rfl) (by kernel_rfl) (by kernel_rfl) (fun _ _ _ h => h) (Or.inl ⟨by rfl, ?_⟩) (by assumption) ?_
  rotate_left
  · intro w hSw
    (try dsimp only at hSw)
    (try (obtain ⟨_, _, _, _, _, _, _⟩ := hSw))
    (try (obtain ⟨_, _⟩ := hSw))
    go_simp
    (try with_reducible rfl)
  (try simp only [Act.put, List.setIfInBounds_toArray, List.set_cons_zero, List.set_cons_succ])
  refine wpAnyH_take (i := 7) (v := ?_) rfl (by kernel_rfl) (by kernel_rfl) (by kernel_rfl) (fun _ _ _ h => h) (Or.inl ⟨by rfl, ?_⟩) (by assumption) ?_
  rotate_left
  · intro w hSw
    (try dsimp only at hSw)
    (try (obtain ⟨_, _, _, _, _, _, _⟩ := hSw))
    (try (obtain ⟨_, _⟩ := hSw))
    go_simp
    (try with_reducible rfl)
  (try simp only [Act.put, List.setIfInBounds_toArray, List.set_cons_zero, List.set_cons_succ])
  have hrdD : Rd w0 W3.drew R m r room := hrd3.later (Below.refl _ W3).drew
  have hwD : RF R w W3.drew := hw3.trans (RF.of_below (Below.refl _ W3).drew)
  cases ho1 : wayOk y room
  · have WB := way_bad w0 _ R m r room y hrdD (hw.rf hwD) ho1
    have q := QNO false W3.drew (by rw [HRES.out, if_pos (.inl ho1)]) hwD
    refine wpAnyH_ready (rs := [4]) (by kernel_rfl) (by simp) ?_
    refine AllReadyH.cons rfl (fun K hK => ?_) AllReadyH.nil
    go_simp
    refine WB.mono ?_
    rintro e wx ⟨rfl, hwx⟩
    obtain rfl := hwx.symm
    unfold gives at q ⊢
    exact ⟨rfl, q⟩
  · have WO1 := way_ok w0 _ R m r room y hrdD (hw.rf hwD) ho1
    refine wpAnyH_ready (rs := [4]) (by kernel_rfl) (by simp) ?_
    refine AllReadyH.cons rfl (fun K hK => ?_) AllReadyH.nil
    go_simp
    refine WO1.mono ?_
    rintro e wx ⟨⟨fn1, fa1, fb1, rfl, hwi1⟩, hwx⟩
    obtain rfl := hwx.symm
    go_simp
    refine hK.out _ _ s0 (fun _ => ?_)
    clear hK K
    (try simp only [Act.put, List.setIfInBounds_toArray, List.set_cons_zero, List.set_cons_succ])
    cases ho2 : wayOk k room
    · have WB := way_bad w0 _ R m r room k hrdD (hw.rf hwD) ho2
      have q := QNO false W3.drew (by rw [HRES.out, if_pos (.inr ho2)]) hwD
      refine wpAnyH_ready (rs := [8]) (by kernel_rfl) (by simp) ?_
      refine AllReadyH.cons rfl (fun K hK => ?_) AllReadyH.nil
      go_simp
      refine WB.mono ?_
      rintro e wx ⟨rfl, hwx⟩
      obtain rfl := hwx.symm
      unfold gives at q ⊢
      exact ⟨rfl, q⟩
    have WO2 := way_ok w0 _ R m r room k hrdD (hw.rf hwD) ho2
    refine wpAnyH_ready (rs := [8]) (by kernel_rfl) (by simp) ?_
    refine AllReadyH.cons rfl (fun K hK => ?_) AllReadyH.nil
    go_simp
    refine WO2.mono ?_
    rintro e wx ⟨⟨fn2, fa2, fb2, rfl, hwi2⟩, hwx⟩
    obtain rfl := hwx.symm
    go_simp
    refine hK.out _ _ s0 (fun _ => ?_)
    clear hK K
    (try simp only [Act.put, List.setIfInBounds_toArray, List.set_cons_zero, List.set_cons_succ])
    have hab4 := alloc_below W3.drew (.cells #[.func fn1 fa1 fb1, .func fn2 fa2 fb2] 67)
    have hf4 : RF R W3.drew (W3.drew.alloc (.cells #[.func fn1 fa1 fb1, .func fn2 fa2 fb2] 67)) := RF.of_below hab4
    have s4 : (W3.drew.alloc (.cells #[.func fn1 fa1 fb1, .func fn2 fa2 fb2] 67)).cell? ⟨w.heap.size + 1, 1, none⟩ = some (.int .i64 (y : Int)) ∧ (W3.drew.alloc (.cells #[.func fn1 fa1 fb1, .func fn2 fa2 fb2] 67)).cell? ⟨w.heap.size + 1, 2, none⟩ = some (.int .i64 (k : Int)) := ⟨cell_later hab4 s0.1, cell_later hab4 s0.2⟩
    refine wpAnyH_ready (rs := [9]) (by kernel_rfl) (by simp) ?_
    refine AllReadyH.cons rfl (fun K hK => ?_) AllReadyH.nil
    go_simp
    refine hK.out _ _ s4 (fun _ => ?_)
    clear hK K
    (try simp only [Act.put, List.setIfInBounds_toArray, List.set_cons_zero, List.set_cons_succ])
    have hwt : RF R w (W3.drew.alloc (.cells #[.func fn1 fa1 fb1, .func fn2 fa2 fb2] 67)) := hwD.trans hf4
    have hRt : R < W3.drew.heap.size := hrdD.lt
    have hwo1 := (HP y _ _ ho1 (hw.rf hwD) hwi1).rf hf4
    have hwo2 := (HP k _ _ ho2 (hw.rf hwD) hwi2).rf hf4
    have HM5 : Hid (w.heap.size + 1 < (W3.drew.alloc (.cells #[.func fn1 fa1 fb1, .func fn2 fa2 fb2] 67)).heap.size) := block_lt_of_cell s4.1
    have RA := fun Q => rounds_any w0 (W3.drew.alloc (.cells #[.func fn1 fa1 fb1, .func fn2 fa2 fb2] 67)) R m n r room (some ⟨W3.drew.heap.size, 0, none⟩) 2 2 [.func fn1 fa1 fb1, .func fn2 fa2 fb2] [P y, P k] hn (by omega) rfl rfl (hrdD.later hab4) ⟨rfl, .inr ⟨_, rfl, new_news W3.drew [.func fn1 fa1 fb1, .func fn2 fa2 fb2] 67 (0, 0)⟩⟩ (fun b o e => by cases e; exact Nat.ne_of_gt hRt) (fun i g q h1 h2 => by
      match i, h1, h2 with
      | 0, h1, h2 => cases h1; cases h2; exact hwo1
      | 1, h1, h2 => cases h1; cases h2; exact hwo2
      | i + 2, h1, h2 => simp at h1) Q
    have B5 := hf4.box (b := w.heap.size + 1) (show W3.drew.heap[w.heap.size + 1]? = _ from b3') (by omega)
    have Z5 := hf4.box (b := w.heap.size) (show W3.drew.heap[w.heap.size]? = _ from z3) (by omega)
    have HE : Hid (res = match rRounds [P y, P k] n .nil r with
      | .error s => .error s
      | .ok (f, t) => .ok ((⟨11, y, k, 0, noText, []⟩, f), t)) := by show _ = _; rw [HRES.out, if_neg (by rw [ho1, ho2]; decide)]
    clear hwo1 hwo2 hwi1 hwi2 HP b3' z3
    refine wpAnyH_ready (rs := [10]) (by kernel_rfl) (by simp) ?_
    refine AllReadyH.cons rfl (fun K hK => ?_) AllReadyH.nil
    go_simp
    refine RA _ ?_ ?_
    · intro f r2 W5 lv he5 hf5 hrd5 hrow5 hfl5
      obtain ⟨la, lc, rfl⟩ := own_sl (hrow5.choose_spec).1
      have b5 := hf5.box B5 (show w.heap.size + 1 ≠ R by omega)
      have z5 := hf5.box Z5 (show w.heap.size ≠ R by omega)
      obtain ⟨⟨d0, d1, d2, d3, d4, d5, d6⟩, e0, e1, e2, e3, e4, e5, e6⟩ := blk7 b5
      obtain ⟨⟨y0, y1, y2, y3, y4, y5, y6⟩, g0, g1, g2, g3, g4, g5, g6⟩ := blk7 z5
      have O5 : Only (w.heap.size + 1) W5 (W5.setCell ⟨w.heap.size + 1, 6, none⟩ (.slice la (flen f) lc)) := (Only.refl _ _).set _ _
      have hf6 := (hwt.trans hf5).only O5 (Nat.le_succ _)
      have hrd6 := hrd5.only O5 (by omega)
      have z6' : (W5.setCell ⟨w.heap.size + 1, 6, none⟩ (.slice la (flen f) lc)).heap[w.heap.size]? = some (.cells #[.int .i64 0, .int .i64 0, .int .i64 0, .int .i64 0, .string { data := #[] }, .slice none 0 0, .slice none 0 0] 26 (0, 0)) := by rw [O5.block _ (by omega)]; exact z5
      have HX : Hid (VX (fun b => w.heap.size < b) (W5.setCell ⟨w.heap.size + 1, 6, none⟩ (.slice la (flen f) lc)) ⟨11, y, k, 0, noText, []⟩ f (.agg #[.int .i64 11, .int .i64 (y : Int), .int .i64 (k : Int), .int .i64 0, .string noText, .slice none 0 0, .slice la (flen f) lc])) := by
        have hM := HM5.out
        exact (hrow5.kept (Nat.le_of_eq (by simp [World.setCell])) fun j h1 h2 => O5.block j (by omega)).vx (dict_pay y k hy16 hk16) rfl (by omega) fun b hb => by omega
      have he6 : res = .ok ((⟨11, y, k, 0, noText, []⟩, f), r2) := by rw [HE.out, he5]
      have he7 : res = .ok ((⟨11, y, k, 0, { data := #[] }, []⟩, f), r2) := he6
      clear hrow5 b5 z5 B5 Z5 RA
      go_simp
      refine hK.out _ _ ⟨d1, d2⟩ (fun _ => ?_)
      clear hK K
      (try simp only [Act.put, List.setIfInBounds_toArray, List.set_cons_zero, List.set_cons_succ])
      refine wpAnyH_take (i := 11) (v := ?_) rfl (by kernel_rfl) (by kernel_rfl) (by kernel_rfl) (fun _ _ _ h => h) (Or.inl ⟨by rfl, ?_⟩) (by assumption) ?_
      rotate_left
      · intro w hSw
        (try dsimp only at hSw)
        (try (obtain ⟨_, _, _, _, _, _, _⟩ := hSw))
        (try (obtain ⟨_, _⟩ := hSw))
        go_simp
        (try with_reducible rfl)
      (try simp only [Act.put, List.setIfInBounds_toArray, List.set_cons_zero, List.set_cons_succ])
      refine wpAnyH_ready (rs := [12]) (by kernel_rfl) (by simp) ?_
      refine AllReadyH.cons rfl (fun K hK => ?_) AllReadyH.nil
      go_simp
      refine hK.out _ _ ⟨by rw [World.cell?_setCell_other _ _ _ _ (by simp)]; exact d1, by rw [World.cell?_setCell_other _ _ _ _ (by simp)]; exact d2⟩ (fun _ => ?_)
      clear hK K
      refine wpAnyH_done (by kernel_rfl) ?_ _
      go_wp2_with fail
      refine finish (p := ⟨11, y, k, 0, { data := #[] }, []⟩) (c := f) (rest := r2) (W := W5.setCell ⟨w.heap.size + 1, 6, none⟩ (.slice la (flen f) lc)) (iv := .slice none 0 0) (lv := .slice la (flen f) lc) rfl QOK rfl z6' hR he7 hf6 hrd6 ?_
      exact HX.out
    · intro s W5 he5 hf5
      have q := QNO s W5 (by rw [HE.out, he5]) (hwt.trans hf5)
      obtain ⟨ch, hch⟩ : ∃ ch, gives s = .panicked ch := ⟨_, rfl⟩
      rw [hch] at q ⊢
      exact ⟨rfl, q⟩

/-- a map, whole -/
theorem dict_any (w0 w : World) (R m : Nat) (bs : List Nat) (room : Int) (P : Int → List Nat → RV) (h : Rd w0 w R m bs room) (hw : Ways w R m)
    (HP : ∀ (k : Int) (v : Value) (W : World), wayOk k room = true → Ways W R m → WayIs W R k v → WayOf w0 W R m room v (P k)) : TakesV 84 #[.pointer (some ⟨R, 0, none⟩)] w0 w R m room (rDict room P bs) := by
  by_cases hx : ∃ n b r, rNum 0 65536 bs = .ok (n, b :: r) ∧ ¬ n = 0
  · obtain ⟨n, b, r, h1, h2⟩ := hx
    exact dict_main w0 w R m bs room P h hw HP n b r h1 h2
  · refine dict_easy w0 w R m bs room P h fun n r e h0 => ?_
    cases r with
    | nil => rfl
    | cons b r => exact absurd ⟨n, b, r, e, h0⟩ hx
end Go.Proofs.Ytikoddlidhefpaa
