/-
  The reference's Bytes: texts.
-/
import Derived.Test.YtikoddlidhefpaaJ15
import Derived.Test.YtikoddlidhefpaaJ5
import Derived.Laws.IdiomStrings
namespace Go.Proofs.Ytikoddlidhefpaa
set_option linter.unusedVariables false
set_option linter.unusedSimpArgs false
open Go.ChangeShapes Go.WideShapes Go.ChangeAt Go.RowKit Go.Deep

theorem conv_text (w : World) (x : ByteArray) : ∃ c W, (convert 9 37 (.string x)).run Try.prog w = .ok (.slice (some ⟨w.heap.size, 0, none⟩) x.size c) W ∧ Src W (some ⟨w.heap.size, 0, none⟩) x.size c (c8 (x.data.toList.map UInt8.toNat)) ∧ Below w.heap.size w W := by
  have h := run_bytes_of_string (P := Try.prog) w 9 37 5 x (by kernel_rfl) (by kernel_rfl) (by kernel_rfl)
  refine ⟨_, _, h, ⟨by rw [c8_len, List.length_map, Array.length_toList]; rfl, .inr ⟨_, rfl, ?_⟩⟩, ((Below.refl _ w).drew).alloc (Nat.le_refl _) _⟩
  intro j u hj
  have hlt : j < x.data.size := by
    have := (List.getElem?_eq_some_iff.1 hj).1
    simpa [c8] using this
  have hu : u = .int .u8 (x.data[j].toNat : Int) := by
    simp [c8] at hj
    obtain ⟨a, ha, hu⟩ := hj
    rw [Array.getElem?_eq_getElem hlt] at ha
    cases ha
    exact hu.symm
  rw [hu]
  have hb := bytesRow_at x (grownCap w x.size 0 5) j hlt
  have e : (w.drew.alloc (.cells (bytesRow x (grownCap w x.size 0 5)) 5 ((bytesRow x (grownCap w x.size 0 5)).size, (bytesRow x (grownCap w x.size 0 5)).size + 1))).heap[w.heap.size]? = _ := heap_new w.drew _
  have := cell_of_block e hb
  by_cases hj0 : j = 0
  · subst hj0; simpa [Addr.add] using this
  · simpa [Addr.add, hj0] using this
theorem ap_run (W : World) (B : Nat) (v : Value) (n : Nat) (l news : List Nat) (hown : W.ownsRow B 5 1 v n (c8 l)) (p : Addr) (m c : Nat) (hs : Src W (some p) m c (c8 news)) (hb : B ≤ W.heap.size) (hz : n + m ≤ 70368744177664) :
    ∃ v' W', (Builtin.append_ #[37, 37] 37 #[v, .slice (some p) m c]).run Try.prog W = .ok v' W' ∧ W'.ownsRow B 5 1 v' (n + m) (c8 (l ++ news)) ∧ Below B W W' := by
  obtain ⟨i0, hi, hz0, hz1, hz2⟩ := info_parts infoU8
  have hc : ∀ j u, (c8 news)[j]? = some u → W.cell? (p.add j) = some u := by
    rcases hs.2 with ⟨h, _⟩ | ⟨p', h, h2⟩
    · cases h
    · cases h; exact h2
  obtain ⟨v', W', hr, h2, h3, _⟩ := run_append_own (P := Try.prog) W B 37 37 5 i0 (.int .u8 0) 1 1 Try.underlying37 hi hz0 hz1 hz2 rfl (by decide) v n (c8 l) hown p m c (c8 news) (by simpa using hs.1) hc (c8_one _) (by unfold maxLen; omega) (by omega) hb
  exact ⟨v', W', hr, by rw [c8_append]; exact h2, (Below.refl B W).grown h3 hb (fun k hk => (hown.lt k hk).1)⟩

set_option maxRecDepth 20000 in
set_option maxHeartbeats 2000000 in
theorem rby_8 (y z n : Int) (x : ByteArray) (l : List Int) (c : Fo) : RBC ⟨8, y, z, n, x, l⟩ c := by
  intro w0 w ia ic la lc hok hv hb0 hl
  have hab : Below w.heap.size w (bx w ⟨8, y, z, n, x, l⟩ c ia ic la lc) := alloc_below w _
  have HE : Hid (valB ⟨8, y, z, n, x, l⟩ c = numB x.size ++ x.data.toList.map UInt8.toNat) := by show _ = _; simp [valB, preB]
  have hx : x.size + 100 ≤ 70368744177664 := by
    rw [HE.out] at hl
    have e : (x.data.toList.map UInt8.toNat).length = x.size := by rw [List.length_map, Array.length_toList]; rfl
    simp only [List.length_append] at hl
    omega
  have hx' : (x.size : Int) ≤ 70368744177664 := by omega
  have HZ : Hid ((numB x.size).length + x.size ≤ 70368744177664) := by have := numB_len x.size; show _ ≤ _; omega
  have HNL : Hid (x.size < 18446744073709551616) := by show _ < _; omega
  have HWR : Hid (IntKind.u64.wrap (x.size : Int) = (x.size : Int)) := by show _ = _; rw [IntKind.wrap_u64]; omega
  clear hl hok
  have s0 : (bx w ⟨8, y, z, n, x, l⟩ c ia ic la lc).drew.cell? ⟨w.heap.size, 4, none⟩ = some (.string x) := (bx_cells (Below.refl _ _).drew).2.2.2.2.1
  go_enter Try.func20, Try.ntmps20
  go_wp2_with fail
  refine wp_region_held_drew (S := fun w' => w'.cell? ⟨w.heap.size, 4, none⟩ = some (.string x)) (by kernel_rfl) s0 (fun hHeld => ?_)
  have hbD : Below (w.heap.size + 1) (bx w ⟨8, y, z, n, x, l⟩ c ia ic la lc) (bx w ⟨8, y, z, n, x, l⟩ c ia ic la lc).drew := (Below.refl _ _).drew
  have hsD : (bx w ⟨8, y, z, n, x, l⟩ c ia ic la lc).drew.heap.size = w.heap.size + 1 := bx_size w ⟨8, y, z, n, x, l⟩ c ia ic la lc
  generalize hD : (bx w ⟨8, y, z, n, x, l⟩ c ia ic la lc).drew = D at *
  have HBD : Hid (Below w.heap.size w D) := hab.trans (hbD.mono (Nat.le_succ _))
  clear hD hbD
  have HD : Hid (D.heap.size = w.heap.size + 1) := hsD
  clear hsD
  obtain ⟨c3, W3, hr3, hS3, hB3⟩ := conv_text D x
  rw [HD.out] at hr3 hS3 hB3
  have HZ3 : Hid (w.heap.size + 1 ≤ W3.heap.size) := by have := hB3.size; rw [HD.out] at this; exact this
  have S3 : W3.cell? ⟨w.heap.size, 4, none⟩ = some (.string x) := by rw [hB3.cell (Nat.lt_succ_self _)]; exact s0
  have HS3 : Hid (Src W3 (some ⟨w.heap.size + 1, 0, none⟩) x.size c3 (c8 (x.data.toList.map UInt8.toNat))) := hS3
  have HB3 : Hid (Below (w.heap.size + 1) D W3) := hB3
  clear hS3 hB3
  refine wpAnyH_take (i := 0) (v := ?_) rfl (by kernel_rfl) (by kernel_rfl) (by kernel_rfl) (fun _ _ _ h => h) (Or.inl ⟨by rfl, ?_⟩) (by assumption) ?_
  rotate_left
  · intro w hSw
    (try dsimp only at hSw)
    (try (obtain ⟨_, _, _, _, _, _, _, _, _, _⟩ := hSw))
    (try (obtain ⟨_, _, _, _, _, _, _⟩ := hSw))
    (try (obtain ⟨_, _⟩ := hSw))
    go_simp
    (try with_reducible rfl)
  (try simp only [Act.put, List.setIfInBounds_toArray, List.set_cons_zero, List.set_cons_succ])
  refine wpAnyH_take (i := 1) (v := ?_) rfl (by kernel_rfl) (by kernel_rfl) (by kernel_rfl) (fun _ _ _ h => h) (Or.inl ⟨by rfl, ?_⟩) (by assumption) ?_
  rotate_left
  · intro w hSw
    (try dsimp only at hSw)
    (try (obtain ⟨_, _, _, _, _, _, _, _, _, _⟩ := hSw))
    (try (obtain ⟨_, _, _, _, _, _, _⟩ := hSw))
    (try (obtain ⟨_, _⟩ := hSw))
    go_simp
    (try with_reducible rfl)
  (try simp only [Act.put, List.setIfInBounds_toArray, List.set_cons_zero, List.set_cons_succ])
  refine wpAnyH_take (i := 2) (v := ?_) rfl (by kernel_rfl) (by kernel_rfl) (by kernel_rfl) (fun _ _ _ h => h) (Or.inl ⟨by rfl, ?_⟩) (by assumption) ?_
  rotate_left
  · intro w hSw
    (try dsimp only at hSw)
    (try (obtain ⟨_, _, _, _, _, _, _, _, _, _⟩ := hSw))
    (try (obtain ⟨_, _, _, _, _, _, _⟩ := hSw))
    (try (obtain ⟨_, _⟩ := hSw))
    go_simp
    (try with_reducible rfl)
  (try simp only [Act.put, List.setIfInBounds_toArray, List.set_cons_zero, List.set_cons_succ])
  refine wpAnyH_take (i := 3) (v := ?_) rfl (by kernel_rfl) (by kernel_rfl) (by kernel_rfl) (fun _ _ _ h => h) (Or.inl ⟨by rfl, ?_⟩) (by assumption) ?_
  rotate_left
  · intro w hSw
    (try dsimp only at hSw)
    (try (obtain ⟨_, _, _, _, _, _, _, _, _, _⟩ := hSw))
    (try (obtain ⟨_, _, _, _, _, _, _⟩ := hSw))
    (try (obtain ⟨_, _⟩ := hSw))
    go_simp
    (try with_reducible rfl)
  (try simp only [Act.put, List.setIfInBounds_toArray, List.set_cons_zero, List.set_cons_succ])
  refine wpAnyH_take (i := 5) (v := ?_) rfl (by kernel_rfl) (by kernel_rfl) (by kernel_rfl) (fun _ _ _ h => h) (Or.inl ⟨by rfl, ?_⟩) (by assumption) ?_
  rotate_left
  · intro w hSw
    (try dsimp only at hSw)
    (try (obtain ⟨_, _, _, _, _, _, _, _, _, _⟩ := hSw))
    (try (obtain ⟨_, _, _, _, _, _, _⟩ := hSw))
    (try (obtain ⟨_, _⟩ := hSw))
    go_simp
    (try with_reducible rfl)
  (try simp only [Act.put, List.setIfInBounds_toArray, List.set_cons_zero, List.set_cons_succ])
  refine wpAnyH_take (i := 6) (v := ?_) rfl (by kernel_rfl) (by kernel_rfl) (by kernel_rfl) (fun _ _ _ h => h) (Or.inl ⟨by rfl, ?_⟩) (by assumption) ?_
  rotate_left
  · intro w hSw
    (try dsimp only at hSw)
    (try (obtain ⟨_, _, _, _, _, _, _, _, _, _⟩ := hSw))
    (try (obtain ⟨_, _, _, _, _, _, _⟩ := hSw))
    (try (obtain ⟨_, _⟩ := hSw))
    go_simp
    (try with_reducible rfl)
  (try simp only [Act.put, List.setIfInBounds_toArray, List.set_cons_zero, List.set_cons_succ])
  refine wpAnyH_ready (rs := [4, 7]) (by kernel_rfl) (by simp) ?_
  refine AllReadyH.cons rfl (fun K hK => ?_) (AllReadyH.cons rfl (fun K hK => ?_) AllReadyH.nil)
  · go_simp
    rw [HWR.out]
    refine (rnumber_any _ x.size HNL.out).mono ?_
    rintro e W2 ⟨ad2, c2, rfl, hO2, hB2⟩
    rw [HD.out] at hO2 hB2
    have S2 : W2.cell? ⟨w.heap.size, 4, none⟩ = some (.string x) := by rw [hB2.cell (Nat.lt_succ_self _)]; exact s0
    obtain ⟨c6, W6, hr6, hS6, hB6⟩ := conv_text W2 x
    have HB32 : Hid (Below (w.heap.size + 1) D W6) := hB2.trans (hB6.mono (by have := hB2.size; rw [HD.out] at this; exact this))
    have HON : Hid (W6.ownsRow (w.heap.size + 1) 5 1 (.slice ad2 (numB x.size).length c2) (numB x.size).length (c8 (numB x.size))) := row_below hO2 hB6
    have HST : Hid (Src W6 (some ⟨W2.heap.size, 0, none⟩) x.size c6 (c8 (x.data.toList.map UInt8.toNat))) := hS6
    have HZW : Hid (w.heap.size + 1 ≤ W6.heap.size) := by have := HB32.out.size; rw [HD.out] at this; exact this
    have HBW : Hid (Below w.heap.size w W6) := HBD.out.trans (HB32.out.mono (Nat.le_succ _))
    have HS : Hid (W6.cell? ⟨w.heap.size, 4, none⟩ = some (.string x)) := by show _ = _; rw [HB32.out.cell (Nat.lt_succ_self _)]; exact s0
    clear hO2 hB2 hS6 hB6
    go_simp
    refine hK.out _ _ S2 (fun _ => ?_)
    clear hK K
    (try simp only [Act.put, List.setIfInBounds_toArray, List.set_cons_zero, List.set_cons_succ])
    refine wpAnyH_ready (rs := [7]) (by kernel_rfl) (by simp) ?_
    refine AllReadyH.cons rfl (fun K hK => ?_) AllReadyH.nil
    go_simp
    refine hK.out _ _ HS.out (fun _ => ?_)
    clear hK K hr6
    (try simp only [Act.put, List.setIfInBounds_toArray, List.set_cons_zero, List.set_cons_succ])
    obtain ⟨v9, W9, hrun, hO9, hB9⟩ := ap_run W6 (w.heap.size + 1) _ _ _ _ HON.out _ _ _ HST.out HZW.out HZ.out
    have HG : Hid (Gives8 w (valB ⟨8, y, z, n, x, l⟩ c) (.returned v9) W9) := by
      have h1 : W9.ownsRow w.heap.size 5 1 v9 _ (c8 (numB x.size ++ x.data.toList.map UInt8.toNat)) := row_mono hO9 (Nat.le_succ _)
      rw [← HE.out] at h1
      have h2 := own_len h1
      rw [h2] at h1
      obtain ⟨ad9, c9, rfl⟩ := own_sl h1
      exact ⟨ad9, c9, rfl, h1, HBW.out.trans (hB9.mono (Nat.le_succ _))⟩
    have S9 : W9.cell? ⟨w.heap.size, 4, none⟩ = some (.string x) := by rw [hB9.cell (Nat.lt_succ_self _)]; exact HS.out
    clear hO9 hB9
    refine wpAnyH_ready (rs := [8]) (by kernel_rfl) (by simp) ?_
    refine AllReadyH.cons rfl (fun K hK => ?_) AllReadyH.nil
    refine ready_append rfl (.tmp 55) (.tmp 58) 37 rfl _ _ _ rfl rfl hrun ?_
    refine hK.out _ _ S9 (fun _ => ?_)
    clear hK K
    (try simp only [Act.put, List.setIfInBounds_toArray, List.set_cons_zero, List.set_cons_succ])
    refine wpAnyH_ready (rs := [9]) (by kernel_rfl) (by simp) ?_
    refine AllReadyH.cons rfl (fun K hK => ?_) AllReadyH.nil
    go_simp
    refine hK.out _ _ S9 (fun _ => ?_)
    clear hK K
    refine wpAnyH_done (by kernel_rfl) ?_ _
    go_wp2_with fail
    go_ret
    exact HG.out
  · go_simp
    refine hK.out _ _ S3 (fun _ => ?_)
    clear hK K hr3
    (try simp only [Act.put, List.setIfInBounds_toArray, List.set_cons_zero, List.set_cons_succ])
    refine wpAnyH_ready (rs := [4]) (by kernel_rfl) (by simp) ?_
    refine AllReadyH.cons rfl (fun K hK => ?_) AllReadyH.nil
    go_simp
    rw [HWR.out]
    refine (rnumber_any _ x.size HNL.out).mono ?_
    rintro e W2 ⟨ad2, c2, rfl, hO2, hB2⟩
    have HB32 : Hid (Below (w.heap.size + 1) D W2) := HB3.out.trans (hB2.mono HZ3.out)
    have HON : Hid (W2.ownsRow (w.heap.size + 1) 5 1 (.slice ad2 (numB x.size).length c2) (numB x.size).length (c8 (numB x.size))) := row_mono hO2 HZ3.out
    have HST : Hid (Src W2 (some ⟨w.heap.size + 1, 0, none⟩) x.size c3 (c8 (x.data.toList.map UInt8.toNat))) := HS3.out.later hB2
    have HZW : Hid (w.heap.size + 1 ≤ W2.heap.size) := Nat.le_trans HZ3.out hB2.size
    have HBW : Hid (Below w.heap.size w W2) := HBD.out.trans (HB32.out.mono (Nat.le_succ _))
    have HS : Hid (W2.cell? ⟨w.heap.size, 4, none⟩ = some (.string x)) := by show _ = _; rw [HB32.out.cell (Nat.lt_succ_self _)]; exact s0
    clear hO2 hB2
    go_simp
    refine hK.out _ _ HS.out (fun _ => ?_)
    clear hK K
    (try simp only [Act.put, List.setIfInBounds_toArray, List.set_cons_zero, List.set_cons_succ])
    obtain ⟨v9, W9, hrun, hO9, hB9⟩ := ap_run W2 (w.heap.size + 1) _ _ _ _ HON.out _ _ _ HST.out HZW.out HZ.out
    have HG : Hid (Gives8 w (valB ⟨8, y, z, n, x, l⟩ c) (.returned v9) W9) := by
      have h1 : W9.ownsRow w.heap.size 5 1 v9 _ (c8 (numB x.size ++ x.data.toList.map UInt8.toNat)) := row_mono hO9 (Nat.le_succ _)
      rw [← HE.out] at h1
      have h2 := own_len h1
      rw [h2] at h1
      obtain ⟨ad9, c9, rfl⟩ := own_sl h1
      exact ⟨ad9, c9, rfl, h1, HBW.out.trans (hB9.mono (Nat.le_succ _))⟩
    have S9 : W9.cell? ⟨w.heap.size, 4, none⟩ = some (.string x) := by rw [hB9.cell (Nat.lt_succ_self _)]; exact HS.out
    clear hO9 hB9
    refine wpAnyH_ready (rs := [8]) (by kernel_rfl) (by simp) ?_
    refine AllReadyH.cons rfl (fun K hK => ?_) AllReadyH.nil
    refine ready_append rfl (.tmp 55) (.tmp 58) 37 rfl _ _ _ rfl rfl hrun ?_
    refine hK.out _ _ S9 (fun _ => ?_)
    clear hK K
    (try simp only [Act.put, List.setIfInBounds_toArray, List.set_cons_zero, List.set_cons_succ])
    refine wpAnyH_ready (rs := [9]) (by kernel_rfl) (by simp) ?_
    refine AllReadyH.cons rfl (fun K hK => ?_) AllReadyH.nil
    go_simp
    refine hK.out _ _ S9 (fun _ => ?_)
    clear hK K
    refine wpAnyH_done (by kernel_rfl) ?_ _
    go_wp2_with fail
    go_ret
    exact HG.out
end Go.Proofs.Ytikoddlidhefpaa

/-
  The reference's Bytes: structures, and every value.
-/
namespace Go.Proofs.Ytikoddlidhefpaa
set_option linter.unusedVariables false
set_option linter.unusedSimpArgs false
open Go.ChangeShapes Go.WideShapes Go.ChangeAt Go.RowKit Go.Deep

theorem ap_run2 (W : World) (B : Nat) (v : Value) (n : Nat) (l news : List Nat) (hown : W.ownsRow B 5 1 v n (c8 l)) (ad : Option Addr) (m c : Nat) (hs : Src W ad m c (c8 news)) (hm : 1 ≤ m) (hb : B ≤ W.heap.size) (hz : n + m ≤ 70368744177664) :
    ∃ v' W', (Builtin.append_ #[37, 37] 37 #[v, .slice ad m c]).run Try.prog W = .ok v' W' ∧ W'.ownsRow B 5 1 v' (n + m) (c8 (l ++ news)) ∧ Below B W W' := by
  rcases hs.2 with ⟨h, h2, _⟩ | ⟨p', h, h2⟩
  · omega
  · subst h
    exact ap_run W B v n l news hown p' m c hs hb hz
theorem headB_pos (p : Pay) (id last : Int) : 1 ≤ (headB p id last).length := by
  unfold headB
  split <;> simp

set_option maxRecDepth 20000 in
set_option maxHeartbeats 40000000 in
theorem rby_12 (y z n : Int) (x : ByteArray) (l : List Int) (c : Fo) (ih : ∀ x ∈ elems c, RBC x.1 x.2) : RBC ⟨12, y, z, n, x, l⟩ c := by
  intro w0 w ia ic la lc hok hv hb0 hl
  obtain ⟨i0, hi, hz0, hz1, hz2⟩ := info_parts infoU8
  have hab : Below w.heap.size w (bx w ⟨12, y, z, n, x, l⟩ c ia ic la lc) := alloc_below w _
  have t3 := hv.len
  have t3' : (flen c : Int) ≤ 140737488355328 := by omega
  have hkb := hok.kind
  have hkb' : (decide (flen c = l.length) && risingB l 0) = true := by simpa [kindB] using hkb
  simp only [Bool.and_eq_true, decide_eq_true_eq] at hkb'
  have HI : Hid (flen c = l.length) := hkb'.1
  have HR : Hid (risingB l 0 = true) := hkb'.2
  have HVB : Hid (valB ⟨12, y, z, n, x, l⟩ c = encF c true l 0) := by show _ = _; simp [valB, preB]
  have HL : Hid ((encF c true l 0).length + 100 ≤ 70368744177664) := by have := hl; rwa [HVB.out] at this
  have HLI : Hid (FAt w0 c la) := hv.list
  have HID : Hid (Src w0 ia l.length ic (c64 l)) := hv.ids
  have HOK : Hid (OkF c) := hok.list
  clear hl hkb hkb' hok
  go_enter Try.func20, Try.ntmps20
  go_wp2_with fail
  go_loopw [5, 6, 7] (fun bv lv iv wr => ∃ (i M : Nat) (last : Int) (done : List Nat), i ≤ flen c ∧ iv = .int .i64 (i : Int) ∧ lv = .int .i64 last ∧ 0 ≤ last ∧ last ≤ 32767 ∧ Hid (risingB (l.drop i) last = true) ∧ Hid (done ++ encF (fdrop c i) true (l.drop i) last = encF c true l 0) ∧ Hid (wr.ownsRow (w.heap.size + 1) 5 1 bv M (c8 done)) ∧ Below (w.heap.size + 1) (bx w ⟨12, y, z, n, x, l⟩ c ia ic la lc) wr) (fun _ _ iv _ => flen c - (intOf iv).toNat)
  case atStart => exact ⟨0, 0, 0, [], Nat.zero_le _, rfl, rfl, by omega, by omega, HR.out, by cases c <;> rfl, World.ownsRow_nil _ _ _ _, Below.refl _ _⟩
  case round =>
    obtain ⟨i, M, last, done, hile, rfl, rfl, l0, l1, HRi, HE, HW, hbw⟩ := hrel
    obtain ⟨ad0, cc0, rfl⟩ := own_sl HW.out
    obtain ⟨y0, y1, y2, y3, y4, y5, y6⟩ := bx_cells hbw
    simp only at y0 y1 y2 y3 y4 y5
    have HB0 : Hid (Below w.heap.size w wr) := hab.trans (hbw.mono (Nat.le_succ _))
    have hold : Below w0.heap.size w0 wr := hb0.trans (HB0.out.mono hb0.size)
    have HM : Hid (M = done.length) := own_len HW.out
    have HSZ : Hid (w.heap.size + 1 ≤ wr.heap.size) := by have := hbw.size; show _ ≤ _; simpa using this
    by_cases hlt : i < flen c
    · have hlt' : (i : Int) < (flen c : Int) := by omega
      have hli : i < l.length := by have := HI.out; omega
      have hli' : (i : Int) < (l.length : Int) := by omega
      obtain ⟨q, d, bk, o, ja, jc, na, nc, bt, ot, _, hm, ef, rfl, hbl, hv', k0, k1, k2, k3, k4, k5, k6⟩ := row_at HLI.out hlt
      have d0 := cell_later hold k0; have d1 := cell_later hold k1; have d2 := cell_later hold k2; have d3 := cell_later hold k3; have d4 := cell_later hold k4; have d5 := cell_later hold k5; have d6 := cell_later hold k6
      obtain ⟨g, off, rfl, kid⟩ := ids_at HID.out hli
      have did := cell_later hold kid
      have hg0 : g < w0.heap.size := block_lt_of_cell kid
      have HW0 : Hid (w0.heap.size ≤ w.heap.size) := hb0.size
      have hdr := drop_cons (i := i) hli
      have HRS : Hid (last < l.getD i 0 ∧ l.getD i 0 ≤ 32767 ∧ risingB (l.drop (i + 1)) (l.getD i 0) = true) := by
        have := HRi.out
        rw [hdr] at this
        simp only [risingB, Bool.and_eq_true, decide_eq_true_eq] at this
        exact ⟨this.1.1, this.1.2, this.2⟩
      have HE' : Hid ((done ++ (headB q (l.getD i 0) last ++ (if q.kind = 1 then [] else valB q d))) ++ encF (fdrop c (i + 1)) true (l.drop (i + 1)) (l.getD i 0) = encF c true l 0) := by
        show _ = _
        rw [← HE.out, ef, hdr, encF_fld]
        simp
      clear HE ef hdr HRi
      generalize l.getD i 0 = id at *
      have id1 := HRS.out.1
      have id2 := HRS.out.2.1
      have HLN : Hid (done.length + (headB q id last).length + (if q.kind = 1 then [] else valB q d).length + 100 ≤ 70368744177664) := by
        have h1 := HL.out
        have h2 := congrArg List.length HE'.out
        show _ ≤ _
        simp only [List.length_append] at h1 h2 ⊢
        omega
      have HOKQ : Hid (OkV q d) := HOK.out _ hm
      have HZ1 : Hid (M + (headB q id last).length ≤ 70368744177664) := by have h1 := HLN.out; rw [← HM.out] at h1; show _ ≤ _; omega
      have HK0 : Hid (∀ W, Below (w.heap.size + 1) wr W → (W.cell? ⟨w.heap.size, 6, none⟩ = some (.slice (some ⟨bk, o, none⟩) (flen c) lc) ∧ W.cell? ⟨w.heap.size, 5, none⟩ = some (.slice (some ⟨g, off, none⟩) l.length ic) ∧ W.cell? ⟨bk, o + i * 7, none⟩ = some (.int .i64 q.kind) ∧ W.cell? ⟨bk, o + i * 7 + 1, none⟩ = some (.int .i64 q.key) ∧ W.cell? ⟨bk, o + i * 7 + 2, none⟩ = some (.int .i64 q.elem) ∧ W.cell? ⟨bk, o + i * 7 + 3, none⟩ = some (.int .i64 q.num) ∧
          W.cell? ⟨bk, o + i * 7 + 4, none⟩ = some (.string q.text) ∧ W.cell? ⟨bk, o + i * 7 + 5, none⟩ = some (.slice ja q.ids.length jc) ∧ W.cell? ⟨bk, o + i * 7 + 6, none⟩ = some (.slice na (flen d) nc) ∧ W.cell? ⟨g, off + i, none⟩ = some (.int .i64 id)) ∧ W.cell? ⟨w.heap.size, 0, none⟩ = some (.int .i64 12) ∧ Below w0.heap.size w0 W) := by
        intro W hbW
        have hbl' : bk < w.heap.size + 1 := by have := HW0.out; omega
        have hg' : g < w.heap.size + 1 := by have := HW0.out; omega
        exact ⟨⟨by rw [hbW.cell (Nat.lt_succ_self _)]; exact y6, by rw [hbW.cell (Nat.lt_succ_self _)]; exact y5, by rw [hbW.cell hbl']; exact d0, by rw [hbW.cell hbl']; exact d1, by rw [hbW.cell hbl']; exact d2, by rw [hbW.cell hbl']; exact d3, by rw [hbW.cell hbl']; exact d4, by rw [hbW.cell hbl']; exact d5, by rw [hbW.cell hbl']; exact d6, by rw [hbW.cell hg']; exact did⟩, by rw [hbW.cell (Nat.lt_succ_self _)]; exact y0, hold.trans (hbW.mono (Nat.le_succ_of_le HW0.out))⟩
      clear k0 k1 k2 k3 k4 k5 k6 kid
      have s0 := (HK0.out wr.drew ((Below.refl _ _).drew)).1
      go_wp2_with fail
      refine wp_region_held_drew (S := fun w' => w'.cell? ⟨w.heap.size, 6, none⟩ = some (.slice (some ⟨bk, o, none⟩) (flen c) lc) ∧ w'.cell? ⟨w.heap.size, 5, none⟩ = some (.slice (some ⟨g, off, none⟩) l.length ic) ∧ w'.cell? ⟨bk, o + i * 7, none⟩ = some (.int .i64 q.kind) ∧ w'.cell? ⟨bk, o + i * 7 + 1, none⟩ = some (.int .i64 q.key) ∧ w'.cell? ⟨bk, o + i * 7 + 2, none⟩ = some (.int .i64 q.elem) ∧ w'.cell? ⟨bk, o + i * 7 + 3, none⟩ = some (.int .i64 q.num) ∧
          w'.cell? ⟨bk, o + i * 7 + 4, none⟩ = some (.string q.text) ∧ w'.cell? ⟨bk, o + i * 7 + 5, none⟩ = some (.slice ja q.ids.length jc) ∧ w'.cell? ⟨bk, o + i * 7 + 6, none⟩ = some (.slice na (flen d) nc) ∧ w'.cell? ⟨g, off + i, none⟩ = some (.int .i64 id)) (by kernel_rfl) s0 (fun hHeld => ?_)
      refine wpAnyH_take (i := 0) (v := ?_) rfl (by kernel_rfl) (by kernel_rfl) (by kernel_rfl) (fun _ _ _ h => h) (Or.inl ⟨by rfl, ?_⟩) (by assumption) ?_
      rotate_left
      · intro w hSw
        (try dsimp only at hSw)
        (try (obtain ⟨_, _, _, _, _, _, _, _, _, _⟩ := hSw))
        (try (obtain ⟨_, _, _, _, _, _, _⟩ := hSw))
        (try (obtain ⟨_, _⟩ := hSw))
        go_simp
        (try with_reducible rfl)
      (try simp only [Act.put, List.setIfInBounds_toArray, List.set_cons_zero, List.set_cons_succ])
      refine wpAnyH_take (i := 1) (v := ?_) rfl (by kernel_rfl) (by kernel_rfl) (by kernel_rfl) (fun _ _ _ h => h) (Or.inl ⟨by rfl, ?_⟩) (by assumption) ?_
      rotate_left
      · intro w hSw
        (try dsimp only at hSw)
        (try (obtain ⟨_, _, _, _, _, _, _, _, _, _⟩ := hSw))
        (try (obtain ⟨_, _, _, _, _, _, _⟩ := hSw))
        (try (obtain ⟨_, _⟩ := hSw))
        go_simp
        (try with_reducible rfl)
      (try simp only [Act.put, List.setIfInBounds_toArray, List.set_cons_zero, List.set_cons_succ])
      refine wpAnyH_take (i := 2) (v := ?_) rfl (by kernel_rfl) (by kernel_rfl) (by kernel_rfl) (fun _ _ _ h => h) (Or.inl ⟨by rfl, ?_⟩) (by assumption) ?_
      rotate_left
      · intro w hSw
        (try dsimp only at hSw)
        (try (obtain ⟨_, _, _, _, _, _, _, _, _, _⟩ := hSw))
        (try (obtain ⟨_, _, _, _, _, _, _⟩ := hSw))
        (try (obtain ⟨_, _⟩ := hSw))
        go_simp
        (try with_reducible rfl)
      (try simp only [Act.put, List.setIfInBounds_toArray, List.set_cons_zero, List.set_cons_succ])
      refine wpAnyH_take (i := 3) (v := ?_) rfl (by kernel_rfl) (by kernel_rfl) (by kernel_rfl) (fun _ _ _ h => h) (Or.inl ⟨by rfl, ?_⟩) (by assumption) ?_
      rotate_left
      · intro w hSw
        (try dsimp only at hSw)
        (try (obtain ⟨_, _, _, _, _, _, _, _, _, _⟩ := hSw))
        (try (obtain ⟨_, _, _, _, _, _, _⟩ := hSw))
        (try (obtain ⟨_, _⟩ := hSw))
        go_simp
        (try with_reducible rfl)
      (try simp only [Act.put, List.setIfInBounds_toArray, List.set_cons_zero, List.set_cons_succ])
      refine wpAnyH_take (i := 4) (v := ?_) rfl (by kernel_rfl) (by kernel_rfl) (by kernel_rfl) (fun _ _ _ h => h) (Or.inl ⟨by rfl, ?_⟩) (by assumption) ?_
      rotate_left
      · intro w hSw
        (try dsimp only at hSw)
        (try (obtain ⟨_, _, _, _, _, _, _, _, _, _⟩ := hSw))
        (try (obtain ⟨_, _, _, _, _, _, _⟩ := hSw))
        (try (obtain ⟨_, _⟩ := hSw))
        go_simp
        (try with_reducible rfl)
      (try simp only [Act.put, List.setIfInBounds_toArray, List.set_cons_zero, List.set_cons_succ])
      refine wpAnyH_take (i := 5) (v := ?_) rfl (by kernel_rfl) (by kernel_rfl) (by kernel_rfl) (fun _ _ _ h => h) (Or.inl ⟨by rfl, ?_⟩) (by assumption) ?_
      rotate_left
      · intro w hSw
        (try dsimp only at hSw)
        (try (obtain ⟨_, _, _, _, _, _, _, _, _, _⟩ := hSw))
        (try (obtain ⟨_, _, _, _, _, _, _⟩ := hSw))
        (try (obtain ⟨_, _⟩ := hSw))
        go_simp
        (try with_reducible rfl)
      (try simp only [Act.put, List.setIfInBounds_toArray, List.set_cons_zero, List.set_cons_succ])
      refine wpAnyH_take (i := 6) (v := ?_) rfl (by kernel_rfl) (by kernel_rfl) (by kernel_rfl) (fun _ _ _ h => h) (Or.inl ⟨by rfl, ?_⟩) (by assumption) ?_
      rotate_left
      · intro w hSw
        (try dsimp only at hSw)
        (try (obtain ⟨_, _, _, _, _, _, _, _, _, _⟩ := hSw))
        (try (obtain ⟨_, _, _, _, _, _, _⟩ := hSw))
        (try (obtain ⟨_, _⟩ := hSw))
        go_simp
        (try with_reducible rfl)
      (try simp only [Act.put, List.setIfInBounds_toArray, List.set_cons_zero, List.set_cons_succ])
      refine wpAnyH_take (i := 7) (v := ?_) rfl (by kernel_rfl) (by kernel_rfl) (by kernel_rfl) (fun _ _ _ h => h) (Or.inl ⟨by rfl, ?_⟩) (by assumption) ?_
      rotate_left
      · intro w hSw
        (try dsimp only at hSw)
        (try (obtain ⟨_, _, _, _, _, _, _, _, _, _⟩ := hSw))
        (try (obtain ⟨_, _, _, _, _, _, _⟩ := hSw))
        (try (obtain ⟨_, _⟩ := hSw))
        go_simp
        (try with_reducible rfl)
      (try simp only [Act.put, List.setIfInBounds_toArray, List.set_cons_zero, List.set_cons_succ])
      refine wpAnyH_take (i := 8) (v := ?_) rfl (by kernel_rfl) (by kernel_rfl) (by kernel_rfl) (fun _ _ _ h => h) (Or.inl ⟨by rfl, ?_⟩) (by assumption) ?_
      rotate_left
      · intro w hSw
        (try dsimp only at hSw)
        (try (obtain ⟨_, _, _, _, _, _, _, _, _, _⟩ := hSw))
        (try (obtain ⟨_, _, _, _, _, _, _⟩ := hSw))
        (try (obtain ⟨_, _⟩ := hSw))
        go_simp
        (try with_reducible rfl)
      (try simp only [Act.put, List.setIfInBounds_toArray, List.set_cons_zero, List.set_cons_succ])
      refine wpAnyH_take (i := 9) (v := ?_) rfl (by kernel_rfl) (by kernel_rfl) (by kernel_rfl) (fun _ _ _ h => h) (Or.inl ⟨by rfl, ?_⟩) (by assumption) ?_
      rotate_left
      · intro w hSw
        (try dsimp only at hSw)
        (try (obtain ⟨_, _, _, _, _, _, _, _, _, _⟩ := hSw))
        (try (obtain ⟨_, _, _, _, _, _, _⟩ := hSw))
        (try (obtain ⟨_, _⟩ := hSw))
        go_simp
        (try with_reducible rfl)
      (try simp only [Act.put, List.setIfInBounds_toArray, List.set_cons_zero, List.set_cons_succ])
      refine wpAnyH_take (i := 10) (v := ?_) rfl (by kernel_rfl) (by kernel_rfl) (by kernel_rfl) (fun _ _ _ h => h) (Or.inl ⟨by rfl, ?_⟩) (by assumption) ?_
      rotate_left
      · intro w hSw
        (try dsimp only at hSw)
        (try (obtain ⟨_, _, _, _, _, _, _, _, _, _⟩ := hSw))
        (try (obtain ⟨_, _, _, _, _, _, _⟩ := hSw))
        (try (obtain ⟨_, _⟩ := hSw))
        go_simp
        (try with_reducible rfl)
      (try simp only [Act.put, List.setIfInBounds_toArray, List.set_cons_zero, List.set_cons_succ])
      refine wpAnyH_take (i := 11) (v := ?_) rfl (by kernel_rfl) (by kernel_rfl) (by kernel_rfl) (fun _ _ _ h => h) (Or.inl ⟨by rfl, ?_⟩) (by assumption) ?_
      rotate_left
      · intro w hSw
        (try dsimp only at hSw)
        (try (obtain ⟨_, _, _, _, _, _, _, _, _, _⟩ := hSw))
        (try (obtain ⟨_, _, _, _, _, _, _⟩ := hSw))
        (try (obtain ⟨_, _⟩ := hSw))
        go_simp
        (try with_reducible rfl)
      (try simp only [Act.put, List.setIfInBounds_toArray, List.set_cons_zero, List.set_cons_succ])
      have HH := rhead_any wr.drew q d ja jc na nc id last l0 id1 id2 HOKQ.out
      refine wpAnyH_ready (rs := [12]) (by kernel_rfl) (by simp) ?_
      refine AllReadyH.cons rfl (fun K hK => ?_) AllReadyH.nil
      go_simp
      refine HH.mono ?_
      rintro e W2 ⟨ad2, c2, rfl, hO2, hB2⟩
      have HB2 : Hid (Below (w.heap.size + 1) wr W2) := ((Below.refl _ wr).drew).trans (hB2.mono HSZ.out)
      have HSZ2 : Hid (w.heap.size + 1 ≤ W2.heap.size) := Nat.le_trans HSZ.out hB2.size
      have HO2 : Hid (Src W2 ad2 (headB q id last).length c2 (c8 (headB q id last))) := Gives8.src hO2
      have HON : Hid (W2.ownsRow (w.heap.size + 1) 5 1 (.slice ad0 M cc0) M (c8 done)) := row_below HW.out (show Below wr.heap.size wr W2 from ((Below.refl _ wr).drew).trans hB2)
      clear hO2 hB2 HH
      go_simp
      refine hK.out _ _ (HK0.out W2 HB2.out).1 (fun _ => ?_)
      clear hK K
      (try simp only [Act.put, List.setIfInBounds_toArray, List.set_cons_zero, List.set_cons_succ])
      obtain ⟨v9, W9, hrun, hO9, hB9⟩ := ap_run2 W2 (w.heap.size + 1) _ _ _ _ HON.out _ _ _ HO2.out (headB_pos _ _ _) HSZ2.out HZ1.out
      have HB9 : Hid (Below (w.heap.size + 1) wr W9) := HB2.out.trans hB9
      have HO9 : Hid (W9.ownsRow (w.heap.size + 1) 5 1 v9 (M + (headB q id last).length) (c8 (done ++ headB q id last))) := hO9
      clear hO9 hB9
      refine wpAnyH_ready (rs := [13]) (by kernel_rfl) (by simp) ?_
      refine AllReadyH.cons rfl (fun K hK => ?_) AllReadyH.nil
      refine ready_append rfl (.tmp 152) (.tmp 164) 37 rfl _ _ _ rfl rfl hrun ?_
      refine hK.out _ _ (HK0.out W9 HB9.out).1 (fun _ => ?_)
      clear hK K hrun
      (try simp only [Act.put, List.setIfInBounds_toArray, List.set_cons_zero, List.set_cons_succ])
      refine wpAnyH_ready (rs := [14]) (by kernel_rfl) (by simp) ?_
      refine AllReadyH.cons rfl (fun K hK => ?_) AllReadyH.nil
      go_simp
      refine hK.out _ _ (HK0.out W9 HB9.out).1 (fun _ => ?_)
      clear hK K
      refine wpAnyH_done (by kernel_rfl) ?_ _
      obtain ⟨⟨e6, e5, f0, f1, f2, f3, f4, f5, f6, fid⟩, e0, hold9⟩ := HK0.out W9 HB9.out
      have HX9 : Hid (Below (w.heap.size + 1) (bx w ⟨12, y, z, n, x, l⟩ c _ ic _ lc) W9) := hbw.trans HB9.out
      obtain ⟨ad9, cc9, hv9⟩ := own_sl HO9.out
      subst hv9
      clear y0 y1 y2 y3 y4 y5 y6 d0 d1 d2 d3 d4 d5 d6 did s0 hHeld hold hbw HW HON HO2
      by_cases hk1 : q.kind = 1
      · have HE1 : Hid ((done ++ headB q id last) ++ encF (fdrop c (i + 1)) true (l.drop (i + 1)) id = encF c true l 0) := by
          have := HE'.out
          rw [if_pos hk1, List.append_nil] at this
          exact this
        go_wp2_with fail
        go_roundw
        case rel => exact ⟨i + 1, _, id, _, by omega, by go_num, rfl, by omega, by omega, HRS.out.2.2, HE1.out, HO9.out, HX9.out⟩
        case measure => simp [intOf]; omega
      · have HE1 : Hid ((done ++ headB q id last ++ valB q d) ++ encF (fdrop c (i + 1)) true (l.drop (i + 1)) id = encF c true l 0) := by
          have := HE'.out
          rw [if_neg hk1, ← List.append_assoc done] at this
          exact this
        have HLQ : Hid (M + (headB q id last).length + (valB q d).length + 100 ≤ 70368744177664) := by
          have := HLN.out
          rw [if_neg hk1, ← HM.out] at this
          exact this
        have hk2 : (q.kind != 1) = true := by simp [hk1]
        have HML : Hid (M + (headB q id last).length + (valB q d).length ≤ maxLen ∧ (M + (headB q id last).length + (valB q d).length) * 1 ≤ 140737488355328) := by have h1 := HLQ.out; exact ⟨by unfold maxLen; omega, by omega⟩
        have HSZ9 : Hid (w.heap.size + 1 ≤ W9.heap.size) := by have := HX9.out.size; show _ ≤ _; simpa using this
        have K := ih _ hm w0 W9 ja jc na nc HOKQ.out hv' hold9 (by have h1 := HLQ.out; show (valB q d).length + 100 ≤ _; omega)
        simp only at K
        go_wp2_with fail
        refine K.mono ?_
        rintro e wz ⟨adz, cz, rfl, hOz, hBz⟩
        have HSz : Hid (Src wz adz (valB q d).length cz (c8 (valB q d))) := Gives8.src hOz
        have HOz : Hid (wz.ownsRow (w.heap.size + 1) 5 1 (.slice ad9 (M + (headB q id last).length) cc9) (M + (headB q id last).length) (c8 (done ++ headB q id last))) := row_below HO9.out hBz
        have HBz : Hid (Below (w.heap.size + 1) (bx w ⟨12, y, z, n, x, l⟩ c _ ic _ lc) wz) := HX9.out.trans (hBz.mono HSZ9.out)
        have HZz : Hid (w.heap.size + 1 ≤ wz.heap.size) := Nat.le_trans HSZ9.out hBz.size
        clear K hOz hBz
        go_wp2_with (at_builtin; refine wpList_append_src rfl (.tmp 178) (.tmp 184) 37 rfl (w.heap.size + 1) 5 i0 (.int .u8 0) 1 Try.underlying37 hi hz0 hz1 hz2 rfl _ _ _ rfl HOz.out _ _ _ _ rfl HSz.out (c8_one _) HML.out.1 HML.out.2 HZz.out ?_; intro v3 W3 hown3 hb3; have HO3 : Hid (W3.ownsRow (w.heap.size + 1) 5 1 v3 _ (c8 (done ++ headB q id last ++ valB q d))) := own_join hown3; have HB3 : Hid (Below (w.heap.size + 1) (bx w ⟨12, y, z, n, x, l⟩ c _ ic _ lc) W3) := HBz.out.trans hb3; clear hown3 hb3)
        go_roundw
        case rel => exact ⟨i + 1, _, id, _, by omega, by go_num, rfl, by omega, by omega, HRS.out.2.2, HE1.out, HO3.out, HB3.out⟩
        case measure => simp [intOf]; omega
    · have hlt' : (flen c : Int) ≤ (i : Int) := by omega
      have HE' : Hid (done ++ [0] = encF c true l 0) := by
        have := HE.out
        rw [show fdrop c i = .nil by rw [show i = flen c by omega]; exact fdrop_end c] at this
        exact this
      have HZ2 : Hid (M + 1 ≤ maxLen ∧ (M + 1) * 1 ≤ 140737488355328) := by
        have h1 := HL.out
        have h2 := congrArg List.length HE'.out
        have h3 := HM.out
        simp only [List.length_append, List.length_cons, List.length_nil] at h2
        exact ⟨by unfold maxLen; omega, by omega⟩
      go_wp2_with (at_builtin; refine wpList_append_own _ rfl (.tmp 189) (.tmp 190) 37 rfl (w.heap.size + 1) 5 i0 (.int .u8 0) 1 1 Try.underlying37 hi hz0 hz1 hz2 rfl (by decide) _ M (c8 done) rfl (HW.out.alloc _) ⟨wr.heap.size, 0, none⟩ 1 1 [.int .u8 0] rfl rfl (new_news wr [.int .u8 0] 5 (0, 0)) (c8_one [0]) HZ2.out.1 HZ2.out.2 (Nat.le_trans HSZ.out (by simp)) ?_; intro v1 W1 hown1 hg1 _; have HBW : Hid (Below (w.heap.size + 1) (bx w ⟨12, y, z, n, x, l⟩ c ia ic la lc) W1) := (hbw.alloc HSZ.out _).grown hg1 (Nat.le_trans HSZ.out (by simp)) (fun k hk => (HW.out.lt k hk).1); have HO1 : Hid (W1.ownsRow (w.heap.size + 1) 5 1 v1 (M + 1) (c8 done ++ c8 [0])) := hown1; clear hown1 hg1)
      have HG : Hid (Gives8 w (valB ⟨12, y, z, n, x, l⟩ c) (.returned v1) W1) := by
        have h1 := HO1.out
        rw [← c8_append, HE'.out, ← HVB.out] at h1
        have h2 := own_len h1
        obtain ⟨ad9, c9, rfl⟩ := own_sl h1
        rw [h2] at h1
        exact ⟨ad9, c9, by rw [h2], row_mono h1 (Nat.le_succ _), hab.trans (HBW.out.mono (Nat.le_succ _))⟩
      go_wp2_with fail
      go_ret
      exact HG.out

end Go.Proofs.Ytikoddlidhefpaa

/-
  The reference's Bytes of every value.
-/
namespace Go.Proofs.Ytikoddlidhefpaa
set_option linter.unusedVariables false
set_option linter.unusedSimpArgs false
open Go.ChangeShapes Go.WideShapes Go.ChangeAt Go.RowKit Go.Deep

theorem rby_step (p : Pay) (c : Fo) (ih : ∀ x ∈ elems c, RBC x.1 x.2) : RBC p c := by
  intro w0 w ia ic la lc hok hv hb0 hl
  have hk := hok.known
  rw [known_true] at hk
  have hn := hv.ok.num
  obtain ⟨k, y, z, n, x, l⟩ := p
  simp only at hk hn
  by_cases h1 : k = 1
  · subst h1
    by_cases h2 : n = 1
    · subst h2; exact rby_t w y z x l c ia ic la lc
    · have h3 : n = 0 := by
        have hb := hok.kind
        simp [kindB] at hb
        omega
      subst h3
      exact rby_f w y z x l c ia ic la lc
  by_cases h3 : k = 3
  · subst h3; exact rby_3 w y z n x l c ia ic la lc
  by_cases h4 : k = 4
  · subst h4; exact rby_4 w y z n x l c ia ic la lc hn
  by_cases h5 : k = 5
  · subst h5; exact rby_5 w y z n x l c ia ic la lc hn
  by_cases h6 : k = 6
  · subst h6; exact rby_6 w y z n x l c ia ic la lc hn
  by_cases h7 : k = 7
  · subst h7; exact rby_7 w y z n x l c ia ic la lc hn
  by_cases h8 : k = 8
  · subst h8; exact rby_8 y z n x l c w0 w ia ic la lc hok hv hb0 hl
  by_cases h9 : k = 9
  · subst h9; exact rby_9 y z n x l c ih w0 w ia ic la lc hok hv hb0 hl
  by_cases h11 : k = 11
  · subst h11; exact rby_11 y z n x l c ih w0 w ia ic la lc hok hv hb0 hl
  have h12 : k = 12 := by omega
  subst h12
  exact rby_12 y z n x l c ih w0 w ia ic la lc hok hv hb0 hl
theorem rby_any (p : Pay) (c : Fo) : RBC p c := every_value rby_step p c
end Go.Proofs.Ytikoddlidhefpaa
