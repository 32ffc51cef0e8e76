/-
  A structure.
-/
import Derived.Test.YtikoddlidhefpaaRdO
namespace Go.Proofs.Ytikoddlidhefpaa
set_option linter.unusedVariables false
set_option linter.unusedSimpArgs false
open Go.ChangeShapes Go.WideShapes Go.ChangeAt Go.RowKit Go.Deep

/-- what stands in memory while a structure is taken: the answer's box at A, the structure's at A + 1, its rows behind -/
structure StIn (w0 w wr : World) (R m : Nat) (room : Int) (ids : List Int) (f : Fo) (r : List Nat) (iv lv : Value) : Prop where
  rf : RF R w wr
  z : wr.heap[w.heap.size]? = some (.cells #[.int .i64 0, .int .i64 0, .int .i64 0, .int .i64 0, .string { data := #[] }, .slice none 0 0, .slice none 0 0] 26 (0, 0))
  v : wr.heap[w.heap.size + 1]? = some (.cells #[.int .i64 12, .int .i64 0, .int .i64 0, .int .i64 0, .string { data := #[] }, iv, lv] 26 (0, 0))
  st : StX (w.heap.size + 2) wr ids iv f lv
  rd : Rd w0 wr R m r room
  sz : w.heap.size + 2 ≤ wr.heap.size
theorem StIn.step {w0 w wr wr' : World} {R m : Nat} {room : Int} {ids : List Int} {f : Fo} {r r' : List Nat} {iv lv : Value} (h : StIn w0 w wr R m room ids f r iv lv) (hR : R < w.heap.size) (hf : RF R wr wr') (hd : Rd w0 wr' R m r' room) : StIn w0 w wr' R m room ids f r' iv lv :=
  ⟨h.rf.trans hf, hf.box h.z (by omega), hf.box h.v (by omega), h.st.rf (by omega) hf, hd, Nat.le_trans h.sz hf.size⟩

/-- one value more in the structure -/
theorem st_grow {w0 w W7 : World} {R m N : Nat} {room : Int} {ids : List Int} {f : Fo} {rest : List Nat} {iv : Value} {la : Option Addr} {lc : Nat} {p : Pay} {c : Fo} {ja : Option Addr} {jc : Nat} {ka : Option Addr} {kc : Nat} (h : StIn w0 w W7 R m room ids f rest iv (.slice la (flen f) lc)) (hR : R < w.heap.size)
    (hNi : ∀ g, iv.ownBlock = some g → g < N) (hNl : ∀ g, (Value.slice la (flen f) lc).ownBlock = some g → g < N) (hBN : w.heap.size + 2 ≤ N) (hx : VX (fun b => N ≤ b) W7 p c (val p c ja jc ka kc)) (hfl : flen f + 1 ≤ 140000) :
    ∃ la9 lc9 W9, (Builtin.append_ #[24, 24] 24 #[.slice la (flen f) lc, .slice (some ⟨W7.heap.size, 0, none⟩) 1 1]).run Try.prog (bx W7 p c ja jc ka kc) = .ok (.slice la9 (flen f + 1) lc9) W9 ∧ W9.cell? ⟨w.heap.size + 1, 6, none⟩ = some (.slice la (flen f) lc) ∧ W9.frozen? ⟨w.heap.size + 1, 6, none⟩ = false ∧
      StIn w0 w (W9.setCell ⟨w.heap.size + 1, 6, none⟩ (.slice la9 (flen f + 1) lc9)) R m room ids (fsnoc f p c) rest iv (.slice la9 (flen f + 1) lc9) := by
  obtain ⟨i0, hi0, hz0, hz1, hz2⟩ := infoTh'
  obtain ⟨ys, y1, y2⟩ := h.st.row
  have hsz := h.sz
  obtain ⟨v9, W9, hrun, o1, o2, o3⟩ := run_append_fresh (P := Try.prog) (bx W7 p c ja jc ka kc) (w.heap.size + 2) 24 24 26 i0 _ 7 i0.bytes Try.underlying24 hi0 hz0 hz1 rfl rfl (by decide) (.slice la (flen f) lc) (flen f) ys (y1.alloc _) ⟨W7.heap.size, 0, none⟩ 1 1 [.int .i64 p.kind, .int .i64 p.key, .int .i64 p.elem, .int .i64 p.num, .string p.text, .slice ja p.ids.length jc, .slice ka (flen c) kc] rfl
    (fun j u hj => by rw [add0]; exact alloc_cell W7 _ 26 (0, 0) (by simpa using hj)) (by intro u hu; simp at hu; rcases hu with rfl | rfl | rfl | rfl | rfl | rfl | rfl <;> rfl) (by unfold maxLen; omega) (Nat.le_trans (Nat.mul_le_mul hfl hz2) (by omega)) (by simp; omega)
  obtain ⟨g1, g2⟩ := h.st.addVal y1 y2 hNi hNl hBN hx (alloc_below W7 _) hsz v9 W9 o1 o2 o3
  obtain ⟨la9, lc9, rfl⟩ := own_sl o1
  have hv : W9.heap[w.heap.size + 1]? = some (.cells #[.int .i64 12, .int .i64 0, .int .i64 0, .int .i64 0, .string { data := #[] }, iv, .slice la (flen f) lc] 26 (0, 0)) := by rw [g2.block _ (by omega)]; exact h.v
  have O5 : Only (w.heap.size + 1) W9 (W9.setCell ⟨w.heap.size + 1, 6, none⟩ (.slice la9 (flen f + 1) lc9)) := (Only.refl _ _).set _ _
  have hV5 := set_block (j := 6) (u := .slice la9 (flen f + 1) lc9) hv
  simp only [List.setIfInBounds_toArray, List.set_cons_zero, List.set_cons_succ] at hV5
  refine ⟨la9, lc9, W9, hrun, cell_of_block hv rfl, frozen_of_block hv, ?_⟩
  exact ⟨(h.rf.belowB g2 (by omega)).only O5 (by omega), by rw [O5.block _ (by omega), g2.block _ (by omega)]; exact h.z, hV5, g1.only (by omega) O5, (h.rd.below (by omega) g2).only O5 (by omega), by rw [← O5.size]; exact Nat.le_trans hsz g2.size⟩

set_option maxRecDepth 10000 in
set_option maxHeartbeats 4000000 in
theorem structure_any (w0 w : World) (R m : Nat) (bs : List Nat) (room : Int) (P : Int → List Nat → RV) (h : Rd w0 w R m bs room) (hw : Ways w R m) (hG : ∀ k, Good (P k))
    (HP : ∀ (k : Int) (v : Value) (W : World), wayOk k room = true → Ways W R m → WayIs W R k v → WayOf w0 W R m room v (P k)) : TakesV 85 #[.pointer (some ⟨R, 0, none⟩)] w0 w R m room (rStruct room P bs) := by
  intro Q QOK QNO
  obtain ⟨i0, hi0, hz0, hz1, hz2⟩ := infoTh'
  obtain ⟨j0, hj0, jz0, jz1, jz2⟩ := infoInt'
  obtain ⟨hab, hbz, hbv, hbs⟩ := struct_boxes w
  have hR := h.lt
  have HST : Hid (StIn w0 w ((zbox w).alloc (.cells #[.int .i64 12, .int .i64 0, .int .i64 0, .int .i64 0, .string { data := #[] }, .slice none 0 0, .slice none 0 0] 26)) R m room [] .nil bs (.slice none 0 0) (.slice none 0 0)) :=
    ⟨RF.of_below hab, hbz, hbv, StX.nil _ _, h.later hab, Nat.le_of_eq hbs.symm⟩
  obtain ⟨all, hall⟩ : ∃ a, a = rStruct room P bs := ⟨_, rfl⟩
  rw [← hall] at QOK QNO
  have HALL : Hid (rStructF room P (bs.length + 1) [] .nil 0 bs = all) := hall.symm
  have HG : Hid (∀ k, Good (P k)) := hG
  have HPP : Hid (∀ (k : Int) (v : Value) (W : World), wayOk k room = true → Ways W R m → WayIs W R k v → WayOf w0 W R m room v (P k)) := HP
  have HW : Hid (Ways w R m) := hw
  clear hall hG HP hw hab hbz hbv hbs h
  go_enter Try.func85, Try.ntmps85
  go_wp2_with fail
  go_loopw [4] (fun idv wr => ∃ (id n : Nat) (ids : List Int) (f : Fo) (r : List Nat) (iv lv : Value), idv = .int .i64 (id : Int) ∧ id ≤ 32767 ∧ Hid (StIn w0 w wr R m room ids f r iv lv ∧ r.length < n ∧ flen f = ids.length ∧ ids.length ≤ id ∧ (∀ x ∈ ids, i64ok x) ∧ rStructF room P n ids f id r = all)) (fun idv _ => 32767 - (intOf idv).toNat)
  case atStart => exact ⟨0, bs.length + 1, [], .nil, bs, _, _, rfl, Nat.zero_le _, HST.out, Nat.lt_succ_self _, rfl, Nat.zero_le _, (fun x hx => by cases hx), HALL.out⟩
  case round =>
    clear HST HALL
    obtain ⟨id, n, ids, f, r, iv, lv, rfl, hid, H⟩ := hrel
    have hid' : (id : Int) ≤ 32767 := by omega
    obtain ⟨ia, ic, rfl⟩ := own_sl (H.out.1.st.idn)
    obtain ⟨la, lc, rfl⟩ := own_sl (H.out.1.st.row.choose_spec).1
    have hrd := H.out.1.rd
    have hRr : R < wr.heap.size := hrd.lt
    have TH := takeHalves_any w0 wr R m r room hrd
    obtain ⟨n, rfl⟩ : ∃ k, n = k + 1 := ⟨n - 1, by have := H.out.2.1; omega⟩
    cases r with
    | nil =>
      have TH1 := TH.no (s := true) rfl
      have q := fun w' hf => QNO true w' (by rw [← H.out.2.2.2.2.2]; rfl) (H.out.1.rf.trans hf)
      clear TH H QOK QNO hrd
      go_wp2_with fail
      refine TH1.mono ?_
      rintro e wx ⟨rfl, hf⟩
      have q1 := q wx hf
      unfold gives at q1 ⊢
      go_wp2_with fail
      exact ⟨rfl, q1⟩
    | cons b r1 =>
      have TH1 := TH.ok (a := (b / 16, b % 16)) (rest := r1) rfl
      have hb256 : b < 256 := hrd.b8 b (List.mem_cons_self ..)
      obtain ⟨st, hst⟩ : ∃ n, n = b / 16 := ⟨_, rfl⟩
      obtain ⟨k, hk⟩ : ∃ k, k = b % 16 := ⟨_, rfl⟩
      have hst16 : st < 16 := by omega
      have hk16 : k < 16 := by omega
      dsimp only at TH1
      rw [← hst, ← hk] at TH1
      by_cases h0 : st = 0 ∧ k = 0
      · obtain ⟨rfl, rfl⟩ := h0
        have he : all = .ok ((⟨12, 0, 0, 0, { data := #[] }, ids⟩, f), r1) := by
          rw [← H.out.2.2.2.2.2, rStructF_succ, bnd_ok (show rHalves (b :: r1) = .ok ((b / 16, b % 16), r1) from rfl), ← hst, ← hk]
          rfl
        clear TH hst hk QNO
        go_wp2_with fail
        refine TH1.mono ?_
        rintro e W1 ⟨rfl, hrd1, hf1⟩
        have S1 := H.out.1.step hR hf1 hrd1
        have hp := struct_pay ids (by have := H.out.2.2.2.1; omega) H.out.2.2.2.2.1
        have hfl : flen f ≤ 140737488355328 := by have := H.out.2.2.2.1; have := H.out.2.2.1; omega
        obtain ⟨⟨b0, b1, b2, b3, b4, b5, b6⟩, c0, c1, c2, c3, c4, c5, c6⟩ := blk7 S1.v
        obtain ⟨⟨z0, z1, z2, z3, z4, z5, z6⟩, g0, g1, g2, g3, g4, g5, g6⟩ := blk7 S1.z
        have HX : Hid (VX (fun b => w.heap.size < b) W1 ⟨12, 0, 0, 0, noText, ids⟩ f (.agg #[.int .i64 12, .int .i64 0, .int .i64 0, .int .i64 0, .string noText, .slice ia ids.length ic, .slice la (flen f) lc])) := S1.st.vx hp rfl hfl fun b hb => by omega
        have hz := S1.z
        have hrf := S1.rf
        clear S1 H hp hrd
        go_wp2_with fail
        refine finish (p := ⟨12, 0, 0, 0, { data := #[] }, ids⟩) (c := f) (rest := r1) (W := W1) (iv := .slice ia ids.length ic) (lv := .slice la (flen f) lc) rfl QOK rfl hz hR he hrf hrd1 ?_
        exact HX.out
      have hne0 : ¬ (st = 0 ∧ k = 0) := h0
      by_cases hwy : (k = 1 ∨ k = 2) ∨ wayOk k room = true
      · have HF : Hid (all = bnd (rID id st) (fun i => bnd (fldP P k) fun pc => rStructF room P n (ids ++ [(i : Int)]) (fsnoc f pc.1 pc.2) i) r1) := by
          show _ = _
          rw [hst, hk] at h0
          rw [← H.out.2.2.2.2.2, structF_field h0 (by rw [← hk]; exact hwy), hst, hk]
        clear hst hk TH
        rcases Nat.eq_zero_or_pos st with hs0 | hs0
        · subst hs0
          have hk0 : ¬ (k : Int) = 0 := by omega
          go_wp2_with fail
          refine TH1.mono ?_
          rintro e W1 ⟨rfl, hrd1, hf1⟩
          have S1 := H.out.1.step hR hf1 hrd1
          have FW := fieldWay_any w0 w W1 R m r1 room P k hrd1 HW.out S1.rf HPP.out hwy
          have hb2 := alloc_below W1 (.cells #[.int .i64 (k : Int)] 3)
          have S2 := S1.step hR (RF.of_below hb2) (hrd1.later hb2)
          have FI := fieldID_any w0 _ R m r1 room id 0 hid (by omega) S2.rd
          generalize hW2 : W1.alloc (.cells #[.int .i64 (k : Int)] 3) = W2 at *
          cases hidr : rID id 0 r1 with
          | error s =>
            have FI1 := FI.no hidr
            have q := fun w' hf => QNO s w' (by rw [HF.out, bnd_err hidr]) (S2.rf.trans hf)
            clear S1 S2 H hrd HG HW HPP HF FI hidr hW2 hb2
            go_wp2_with fail
            refine FW.mono ?_
            rintro e wx ⟨fn, fa, fb, rfl, eg, G, hwx⟩
            obtain rfl := hwx.symm
            clear G
            go_wp2_with fail
            refine FI1.mono ?_
            rintro e W3 ⟨rfl, hf3⟩
            have q1 := q W3 hf3
            obtain ⟨ch, hch⟩ : ∃ ch, gives s = .panicked ch := ⟨_, rfl⟩
            rw [hch] at q1 ⊢
            clear hch
            go_wp2_with fail
            exact ⟨rfl, q1⟩
          | ok v =>
            obtain ⟨i, r3⟩ := v
            have FI1 := FI.ok hidr
            have hile := rID_le hidr
            have hi' : (i : Int) ≤ 32767 := by omega
            have HF2 : Hid (all = bnd (fldP P k) (fun pc => rStructF room P n (ids ++ [(i : Int)]) (fsnoc f pc.1 pc.2) i) r3) := by show _ = _; rw [HF.out, bnd_ok hidr]
            have HL3 : Hid (r3.length ≤ r1.length) := good_len (good_id _ _) hidr
            have HS2 : Hid (StIn w0 w W2 R m room ids f r1 (.slice ia ids.length ic) (.slice la (flen f) lc)) := S2
            have HK2 : Hid (W2.heap[W1.heap.size]? = some (.cells #[.int .i64 (k : Int)] 3 (0, 0)) ∧ (∀ g, (Value.slice ia ids.length ic).ownBlock = some g → g < W1.heap.size) ∧ w.heap.size + 2 ≤ W1.heap.size) := ⟨by rw [← hW2]; exact heap_new W1 _, fun g hg => (row_own S1.st.idn g hg).2, S1.sz⟩
            clear S1 S2 hrd HW HPP HF FI hidr hW2 hb2
            go_wp2_with fail
            refine FW.mono ?_
            rintro e wx ⟨fn, fa, fb, rfl, eg, G, hwx⟩
            obtain rfl := hwx.symm
            go_wp2_with fail
            refine FI1.mono ?_
            rintro e W3 ⟨rfl, hrd3, hf3⟩
            have HS3 : Hid (StIn w0 w W3 R m room ids f r3 (.slice ia ids.length ic) (.slice la (flen f) lc)) := HS2.out.step hR hf3 hrd3
            have HK3 : Hid (W3.heap[W1.heap.size]? = some (.cells #[.int .i64 (k : Int)] 3 (0, 0))) := hf3.box HK2.out.1 (by have := HK2.out.2.2; omega)
            obtain ⟨⟨b0, b1, b2, b3, b4, b5, b6⟩, c0, c1, c2, c3, c4, c5, c6⟩ := blk7 HS3.out.v
            have HADD : Hid (∀ v' w2, w2.ownsRow (w.heap.size + 2) 3 1 v' (ids.length + 1) (c64 ids ++ [.int .i64 (i : Int)]) → (W3.alloc (.cells #[.int .i64 (i : Int)] 3)).grownBy w2 (Value.slice ia ids.length ic).ownBlock → (v'.ownBlock = (Value.slice ia ids.length ic).ownBlock ∨ w2.ownsRow (W3.alloc (.cells #[.int .i64 (i : Int)] 3)).heap.size 3 1 v' (ids.length + 1) (c64 ids ++ [.int .i64 (i : Int)])) →
                StX (w.heap.size + 2) w2 (ids ++ [(i : Int)]) v' f (.slice la (flen f) lc) ∧ Below (w.heap.size + 2) W3 w2 ∧ ∀ k, k < W3.heap.size → (Value.slice ia ids.length ic).ownBlock ≠ some k → w2.heap[k]? = W3.heap[k]?) := HS3.out.st.addId (alloc_below _ _) HS3.out.sz
            have HOWN : Hid (W3.ownsRow (w.heap.size + 2) 3 1 (.slice ia ids.length ic) ids.length (c64 ids)) := HS3.out.st.idn
            have HIL : Hid (ids.length ≤ id) := H.out.2.2.2.1
            have HM : Hid (ids.length + 1 ≤ maxLen ∧ (ids.length + 1) * j0.bytes ≤ 140737488355328) := by
              have h131 : ids.length + 1 ≤ 140000 := by have := HIL.out; omega
              exact ⟨by unfold maxLen; omega, Nat.le_trans (Nat.mul_le_mul h131 jz2) (by omega)⟩
            have HBB : Hid (w.heap.size + 2 ≤ (W3.alloc (.cells #[.int .i64 (i : Int)] 3)).heap.size) := by show _ ≤ _; have := HS3.out.sz; simp; omega
            clear hrd3 hf3 HS2 FW TH1 FI1
            go_wp2_with (at_builtin; refine wpList_append_fresh rfl (.tmp 31) (.tmp 33) 23 rfl (w.heap.size + 2) 3 j0 _ 1 j0.bytes Try.underlying23 hj0 jz0 jz1 rfl rfl (by decide) _ ids.length (c64 ids) rfl (HOWN.out.alloc _) ⟨W3.heap.size, 0, none⟩ 1 1 [.int .i64 (i : Int)] rfl rfl (fun j u hj => by rw [add0]; exact alloc_cell W3 _ 3 (0, 0) (by simpa using hj)) (by intro u hu; simp at hu; subst hu; rfl) HM.out.1 HM.out.2 HBB.out ?_; intro v4 W4 q1 q2 q3; have HS4 : Hid (StX (w.heap.size + 2) W4 (ids ++ [(i : Int)]) v4 f (.slice la (flen f) lc) ∧ Below (w.heap.size + 2) W3 W4 ∧ ∀ k, k < W3.heap.size → (Value.slice ia ids.length ic).ownBlock ≠ some k → W4.heap[k]? = W3.heap[k]?) := HADD.out v4 W4 q1 q2 q3; clear q1 q2 q3; obtain ⟨ia4, ic4, rfl⟩ := own_sl HS4.out.1.idn; have HV4 : W4.heap[w.heap.size + 1]? = some (.cells #[.int .i64 12, .int .i64 0, .int .i64 0, .int .i64 0, .string { data := #[] }, .slice ia ids.length ic, .slice la (flen f) lc] 26 (0, 0)) := (by rw [HS4.out.2.1.block _ (by omega)]; exact HS3.out.v); obtain ⟨⟨b0, b1, b2, b3, b4, b5, b6⟩, c0, c1, c2, c3, c4, c5, c6⟩ := blk7 HV4)
            have HS4X : StX (w.heap.size + 2) W4 (ids ++ [(i : Int)]) (.slice ia4 (ids.length + 1) ic4) f (.slice la (flen f) lc) := by have h5 := HS4.out.1; rwa [List.length_append] at h5
            have O5 : Only (w.heap.size + 1) W4 (W4.setCell ⟨w.heap.size + 1, 5, none⟩ (.slice ia4 (ids.length + 1) ic4)) := (Only.refl _ _).set _ _
            have hV5 := set_block (j := 5) (u := .slice ia4 (ids.length + 1) ic4) HV4
            simp only [List.setIfInBounds_toArray, List.set_cons_zero, List.set_cons_succ] at hV5
            have HS5 : Hid (StIn w0 w (W4.setCell ⟨w.heap.size + 1, 5, none⟩ (.slice ia4 (ids.length + 1) ic4)) R m room (ids ++ [(i : Int)]) f r3 (.slice ia4 (ids.length + 1) ic4) (.slice la (flen f) lc)) :=
              ⟨(HS3.out.rf.belowB HS4.out.2.1 (by omega)).only O5 (by omega), by rw [O5.block _ (by omega), HS4.out.2.1.block _ (by omega)]; exact HS3.out.z, hV5, HS4X.only (by omega) O5, (HS3.out.rd.below (by omega) HS4.out.2.1).only O5 (by omega), by rw [← O5.size]; exact Nat.le_trans HS3.out.sz HS4.out.2.1.size⟩
            have HK5 : Hid ((W4.setCell ⟨w.heap.size + 1, 5, none⟩ (.slice ia4 (ids.length + 1) ic4)).heap[W1.heap.size]? = some (.cells #[.int .i64 (k : Int)] 3 (0, 0))) := by
              show _ = _
              rw [O5.block _ (by have := HK2.out.2.2; omega), HS4.out.2.2 _ (Array.getElem?_eq_some_iff.1 HK3.out).1 (fun e => by have := HK2.out.2.1 _ e; omega)]
              exact HK3.out
            generalize W4.setCell ⟨w.heap.size + 1, 5, none⟩ (.slice ia4 (ids.length + 1) ic4) = W5 at *
            have HN : Hid ((ids ++ [(i : Int)]).length ≤ i ∧ (∀ x ∈ ids ++ [(i : Int)], i64ok x) ∧ flen f + 1 = (ids ++ [(i : Int)]).length ∧ r1.length < n ∧ flen f + 1 ≤ 140000) := by
              refine ⟨by have := HIL.out; simp; omega, fun x hx => ?_, by have := H.out.2.2.1; simp; omega, by have := H.out.2.1; simp at this; omega, by have := H.out.2.2.1; have := HIL.out; omega⟩
              rcases List.mem_append.1 hx with hx | hx
              · exact H.out.2.2.2.2.1 x hx
              · rw [List.mem_singleton.1 hx]; exact ⟨by omega, by omega⟩
            generalize ids ++ [(i : Int)] = ids5 at *
            generalize ids.length + 1 = L5 at *
            clear HS4 HS4X HV4 O5 hV5 HADD HOWN HM HBB HS3 HK3 HK2 b0 b1 b2 b3 b4 b5 b6 c0 c1 c2 c3 c4 c5 c6 H
            have s0 : W5.drew.cell? ⟨w.heap.size + 1, 6, none⟩ = some (.slice la (flen f) lc) := cell_of_block HS5.out.v rfl
            refine wp_region_held_drew (S := fun _ => True) (by kernel_rfl) trivial (fun hHeld => ?_)
            have hbd : Below W5.heap.size W5 W5.drew := (Below.refl _ W5).drew
            have HS6 : Hid (StIn w0 w W5.drew R m room ids5 f r3 (.slice ia4 L5 ic4) (.slice la (flen f) lc)) := HS5.out.step hR (RF.of_below hbd) (HS5.out.rd.later hbd)
            have GG := G W5.drew r3 HS6.out.rf HK5.out HS6.out.rd
            clear G HK5 HS5 hbd
            refine wpAnyH_take (i := 0) (v := ?_) rfl (by kernel_rfl) (by kernel_rfl) (by kernel_rfl) (fun _ _ _ h => h) (Or.inl ⟨by rfl, ?_⟩) (by assumption) ?_
            rotate_left
            · intro w hSw
              (try dsimp only at hSw)
              (try (obtain ⟨_, _, _, _, _, _, _⟩ := hSw))
              (try (obtain ⟨_, _⟩ := hSw))
              go_simp
              (try with_reducible rfl)
            (try simp only [Act.put, List.setIfInBounds_toArray, List.set_cons_zero, List.set_cons_succ])
            refine wpAnyH_take (i := 2) (v := ?_) rfl (by kernel_rfl) (by kernel_rfl) (by kernel_rfl) (fun _ _ _ h => h) (Or.inl ⟨by rfl, ?_⟩) (by assumption) ?_
            rotate_left
            · intro w hSw
              (try dsimp only at hSw)
              (try (obtain ⟨_, _, _, _, _, _, _⟩ := hSw))
              (try (obtain ⟨_, _⟩ := hSw))
              go_simp
              (try with_reducible rfl)
            (try simp only [Act.put, List.setIfInBounds_toArray, List.set_cons_zero, List.set_cons_succ])
            refine wpAnyH_ready (rs := [1, 3]) (by kernel_rfl) (by simp) ?_
            refine AllReadyH.cons rfl (fun K hK => ?_) (AllReadyH.cons rfl (fun K hK => ?_) AllReadyH.nil)
            · go_simp
              refine hK.out _ _ trivial (fun _ => ?_)
              clear hK K
              (try simp only [Act.put, List.setIfInBounds_toArray, List.set_cons_zero, List.set_cons_succ])
              refine wpAnyH_ready (rs := [3]) (by kernel_rfl) (by simp) ?_
              refine AllReadyH.cons rfl (fun K hK => ?_) AllReadyH.nil
              go_simp
              refine GG _ ?_ ?_
              · intro p c rest W7 v he hf7 hrd7 hvx
                obtain ⟨jv, kv, rfl, hp, hlc, hi', zs, hy, hel⟩ := hvx
                obtain ⟨ja, jc, rfl⟩ := own_sl hi'.1
                obtain ⟨ka, kc, rfl⟩ := own_sl hy.1
                have HS7 : Hid (StIn w0 w W7 R m room ids5 f rest (.slice ia4 L5 ic4) (.slice la (flen f) lc)) := HS6.out.step hR hf7 hrd7
                have s7 : W7.cell? ⟨w.heap.size + 1, 6, none⟩ = some (.slice la (flen f) lc) := cell_of_block HS7.out.v rfl
                have l7 : w.heap.size + 1 < W7.heap.size := block_lt_of_cell s7
                obtain ⟨la9, lc9, W9, hrun, s9, f9, hst9⟩ := st_grow HS7.out hR (N := W5.drew.heap.size) (fun g hg => (row_own HS6.out.st.idn g hg).2) (fun g hg => (row_own (HS6.out.st.row.choose_spec).1 g hg).2) HS6.out.sz ⟨_, _, rfl, hp, hlc, hi', zs, hy, hel⟩ HN.out.2.2.2.2
                have HS9 : Hid (StIn w0 w (W9.setCell ⟨w.heap.size + 1, 6, none⟩ (.slice la9 (flen f + 1) lc9)) R m room ids5 (fsnoc f p c) rest (.slice ia4 L5 ic4) (.slice la9 (flen f + 1) lc9)) := hst9
                have HE9 : Hid (rStructF room P n ids5 (fsnoc f p c) i rest = all ∧ rest.length ≤ r3.length) := ⟨by rw [HF2.out, bnd_ok he], by unfold fldP at he; split at he; exact good_len (good_ok _) he; exact good_len (HG.out _) he⟩
                clear hst9 hi' hy hel hp hlc HS6 HS7 GG he hf7 hrd7
                go_simp
                refine hK.out _ _ trivial (fun _ => ?_)
                clear hK K
                (try simp only [Act.put, List.setIfInBounds_toArray, List.set_cons_zero, List.set_cons_succ])
                refine wpAnyH_ready (rs := [4]) (by kernel_rfl) (by simp) ?_
                refine AllReadyH.cons rfl (fun K hK => ?_) AllReadyH.nil
                go_simp
                refine hK.out _ _ trivial (fun _ => ?_)
                clear hK K
                (try simp only [Act.put, List.setIfInBounds_toArray, List.set_cons_zero, List.set_cons_succ])
                refine wpAnyH_ready (rs := [5]) (by kernel_rfl) (by simp) ?_
                refine AllReadyH.cons rfl (fun K hK => ?_) AllReadyH.nil
                refine ready_append rfl (.tmp 37) (.tmp 40) 24 rfl _ _ _ rfl rfl hrun ?_
                refine hK.out _ _ trivial (fun _ => ?_)
                clear hK K
                (try simp only [Act.put, List.setIfInBounds_toArray, List.set_cons_zero, List.set_cons_succ])
                refine wpAnyH_take (i := 6) (v := ?_) rfl (by kernel_rfl) (by kernel_rfl) (by kernel_rfl) (fun _ _ _ h => h) (Or.inl ⟨by rfl, ?_⟩) (by assumption) ?_
                rotate_left
                · intro w hSw
                  (try dsimp only at hSw)
                  (try (obtain ⟨_, _, _, _, _, _, _⟩ := hSw))
                  (try (obtain ⟨_, _⟩ := hSw))
                  go_simp
                  (try with_reducible rfl)
                (try simp only [Act.put, List.setIfInBounds_toArray, List.set_cons_zero, List.set_cons_succ])
                refine wpAnyH_ready (rs := [7]) (by kernel_rfl) (by simp) ?_
                refine AllReadyH.cons rfl (fun K hK => ?_) AllReadyH.nil
                go_simp
                refine hK.out _ _ trivial (fun _ => ?_)
                clear hK K
                refine wpAnyH_done (by kernel_rfl) ?_ _
                go_wp2_with fail
                go_roundw
                case rel => exact ⟨i, n, ids5, fsnoc f p c, rest, _, _, rfl, hile.2, HS9.out, by have := HE9.out.2; have := HL3.out; have := HN.out.2.2.2.1; omega, by rw [flen_snoc]; exact HN.out.2.2.1, HN.out.1, HN.out.2.1, HE9.out.1⟩
                case measure => simp [intOf]; omega
              · intro s W7 he hf7
                have q := QNO s W7 (by rw [HF2.out, bnd_err he]) (HS6.out.rf.trans hf7)
                obtain ⟨ch, hch⟩ : ∃ ch, gives s = .panicked ch := ⟨_, rfl⟩
                rw [hch] at q ⊢
                exact ⟨rfl, q⟩
            · go_simp
              refine GG _ ?_ ?_
              · intro p c rest W7 v he hf7 hrd7 hvx
                obtain ⟨jv, kv, rfl, hp, hlc, hi', zs, hy, hel⟩ := hvx
                obtain ⟨ja, jc, rfl⟩ := own_sl hi'.1
                obtain ⟨ka, kc, rfl⟩ := own_sl hy.1
                have HS7 : Hid (StIn w0 w W7 R m room ids5 f rest (.slice ia4 L5 ic4) (.slice la (flen f) lc)) := HS6.out.step hR hf7 hrd7
                have s7 : W7.cell? ⟨w.heap.size + 1, 6, none⟩ = some (.slice la (flen f) lc) := cell_of_block HS7.out.v rfl
                have l7 : w.heap.size + 1 < W7.heap.size := block_lt_of_cell s7
                obtain ⟨la9, lc9, W9, hrun, s9, f9, hst9⟩ := st_grow HS7.out hR (N := W5.drew.heap.size) (fun g hg => (row_own HS6.out.st.idn g hg).2) (fun g hg => (row_own (HS6.out.st.row.choose_spec).1 g hg).2) HS6.out.sz ⟨_, _, rfl, hp, hlc, hi', zs, hy, hel⟩ HN.out.2.2.2.2
                have HS9 : Hid (StIn w0 w (W9.setCell ⟨w.heap.size + 1, 6, none⟩ (.slice la9 (flen f + 1) lc9)) R m room ids5 (fsnoc f p c) rest (.slice ia4 L5 ic4) (.slice la9 (flen f + 1) lc9)) := hst9
                have HE9 : Hid (rStructF room P n ids5 (fsnoc f p c) i rest = all ∧ rest.length ≤ r3.length) := ⟨by rw [HF2.out, bnd_ok he], by unfold fldP at he; split at he; exact good_len (good_ok _) he; exact good_len (HG.out _) he⟩
                clear hst9 hi' hy hel hp hlc HS6 HS7 GG he hf7 hrd7
                go_simp
                refine hK.out _ _ trivial (fun _ => ?_)
                clear hK K
                (try simp only [Act.put, List.setIfInBounds_toArray, List.set_cons_zero, List.set_cons_succ])
                refine wpAnyH_ready (rs := [1, 4]) (by kernel_rfl) (by simp) ?_
                refine AllReadyH.cons rfl (fun K hK => ?_) (AllReadyH.cons rfl (fun K hK => ?_) AllReadyH.nil)
                · go_simp
                  refine hK.out _ _ trivial (fun _ => ?_)
                  clear hK K
                  (try simp only [Act.put, List.setIfInBounds_toArray, List.set_cons_zero, List.set_cons_succ])
                  refine wpAnyH_ready (rs := [4]) (by kernel_rfl) (by simp) ?_
                  refine AllReadyH.cons rfl (fun K hK => ?_) AllReadyH.nil
                  go_simp
                  refine hK.out _ _ trivial (fun _ => ?_)
                  clear hK K
                  (try simp only [Act.put, List.setIfInBounds_toArray, List.set_cons_zero, List.set_cons_succ])
                  refine wpAnyH_ready (rs := [5]) (by kernel_rfl) (by simp) ?_
                  refine AllReadyH.cons rfl (fun K hK => ?_) AllReadyH.nil
                  refine ready_append rfl (.tmp 37) (.tmp 40) 24 rfl _ _ _ rfl rfl hrun ?_
                  refine hK.out _ _ trivial (fun _ => ?_)
                  clear hK K
                  (try simp only [Act.put, List.setIfInBounds_toArray, List.set_cons_zero, List.set_cons_succ])
                  refine wpAnyH_take (i := 6) (v := ?_) rfl (by kernel_rfl) (by kernel_rfl) (by kernel_rfl) (fun _ _ _ h => h) (Or.inl ⟨by rfl, ?_⟩) (by assumption) ?_
                  rotate_left
                  · intro w hSw
                    (try dsimp only at hSw)
                    (try (obtain ⟨_, _, _, _, _, _, _⟩ := hSw))
                    (try (obtain ⟨_, _⟩ := hSw))
                    go_simp
                    (try with_reducible rfl)
                  (try simp only [Act.put, List.setIfInBounds_toArray, List.set_cons_zero, List.set_cons_succ])
                  refine wpAnyH_ready (rs := [7]) (by kernel_rfl) (by simp) ?_
                  refine AllReadyH.cons rfl (fun K hK => ?_) AllReadyH.nil
                  go_simp
                  refine hK.out _ _ trivial (fun _ => ?_)
                  clear hK K
                  refine wpAnyH_done (by kernel_rfl) ?_ _
                  go_wp2_with fail
                  go_roundw
                  case rel => exact ⟨i, n, ids5, fsnoc f p c, rest, _, _, rfl, hile.2, HS9.out, by have := HE9.out.2; have := HL3.out; have := HN.out.2.2.2.1; omega, by rw [flen_snoc]; exact HN.out.2.2.1, HN.out.1, HN.out.2.1, HE9.out.1⟩
                  case measure => simp [intOf]; omega
                · go_simp
                  refine hK.out _ _ trivial (fun _ => ?_)
                  clear hK K
                  (try simp only [Act.put, List.setIfInBounds_toArray, List.set_cons_zero, List.set_cons_succ])
                  have s8 : (bx W7 p c ja jc ka kc).cell? ⟨w.heap.size + 1, 6, none⟩ = some (.slice la (flen f) lc) := cell_later (alloc_below _ _) s7
                  refine wpAnyH_ready (rs := [1]) (by kernel_rfl) (by simp) ?_
                  refine AllReadyH.cons rfl (fun K hK => ?_) AllReadyH.nil
                  go_simp
                  refine hK.out _ _ trivial (fun _ => ?_)
                  clear hK K
                  (try simp only [Act.put, List.setIfInBounds_toArray, List.set_cons_zero, List.set_cons_succ])
                  refine wpAnyH_ready (rs := [5]) (by kernel_rfl) (by simp) ?_
                  refine AllReadyH.cons rfl (fun K hK => ?_) AllReadyH.nil
                  refine ready_append rfl (.tmp 37) (.tmp 40) 24 rfl _ _ _ rfl rfl hrun ?_
                  refine hK.out _ _ trivial (fun _ => ?_)
                  clear hK K
                  (try simp only [Act.put, List.setIfInBounds_toArray, List.set_cons_zero, List.set_cons_succ])
                  refine wpAnyH_take (i := 6) (v := ?_) rfl (by kernel_rfl) (by kernel_rfl) (by kernel_rfl) (fun _ _ _ h => h) (Or.inl ⟨by rfl, ?_⟩) (by assumption) ?_
                  rotate_left
                  · intro w hSw
                    (try dsimp only at hSw)
                    (try (obtain ⟨_, _, _, _, _, _, _⟩ := hSw))
                    (try (obtain ⟨_, _⟩ := hSw))
                    go_simp
                    (try with_reducible rfl)
                  (try simp only [Act.put, List.setIfInBounds_toArray, List.set_cons_zero, List.set_cons_succ])
                  refine wpAnyH_ready (rs := [7]) (by kernel_rfl) (by simp) ?_
                  refine AllReadyH.cons rfl (fun K hK => ?_) AllReadyH.nil
                  go_simp
                  refine hK.out _ _ trivial (fun _ => ?_)
                  clear hK K
                  refine wpAnyH_done (by kernel_rfl) ?_ _
                  go_wp2_with fail
                  go_roundw
                  case rel => exact ⟨i, n, ids5, fsnoc f p c, rest, _, _, rfl, hile.2, HS9.out, by have := HE9.out.2; have := HL3.out; have := HN.out.2.2.2.1; omega, by rw [flen_snoc]; exact HN.out.2.2.1, HN.out.1, HN.out.2.1, HE9.out.1⟩
                  case measure => simp [intOf]; omega
              · intro s W7 he hf7
                have q := QNO s W7 (by rw [HF2.out, bnd_err he]) (HS6.out.rf.trans hf7)
                obtain ⟨ch, hch⟩ : ∃ ch, gives s = .panicked ch := ⟨_, rfl⟩
                rw [hch] at q ⊢
                exact ⟨rfl, q⟩
        · have hs0' : ¬ (st : Int) = 0 := by omega
          go_wp2_with fail
          refine TH1.mono ?_
          rintro e W1 ⟨rfl, hrd1, hf1⟩
          have S1 := H.out.1.step hR hf1 hrd1
          have FW := fieldWay_any w0 w W1 R m r1 room P k hrd1 HW.out S1.rf HPP.out hwy
          have hb2 := alloc_below W1 (.cells #[.int .i64 (k : Int)] 3)
          have S2 := S1.step hR (RF.of_below hb2) (hrd1.later hb2)
          have FI := fieldID_any w0 _ R m r1 room id st hid (by omega) S2.rd
          generalize hW2 : W1.alloc (.cells #[.int .i64 (k : Int)] 3) = W2 at *
          cases hidr : rID id st r1 with
          | error s =>
            have FI1 := FI.no hidr
            have q := fun w' hf => QNO s w' (by rw [HF.out, bnd_err hidr]) (S2.rf.trans hf)
            clear S1 S2 H hrd HG HW HPP HF FI hidr hW2 hb2
            go_wp2_with fail
            refine FW.mono ?_
            rintro e wx ⟨fn, fa, fb, rfl, eg, G, hwx⟩
            obtain rfl := hwx.symm
            clear G
            go_wp2_with fail
            refine FI1.mono ?_
            rintro e W3 ⟨rfl, hf3⟩
            have q1 := q W3 hf3
            obtain ⟨ch, hch⟩ : ∃ ch, gives s = .panicked ch := ⟨_, rfl⟩
            rw [hch] at q1 ⊢
            clear hch
            go_wp2_with fail
            exact ⟨rfl, q1⟩
          | ok v =>
            obtain ⟨i, r3⟩ := v
            have FI1 := FI.ok hidr
            have hile := rID_le hidr
            have hi' : (i : Int) ≤ 32767 := by omega
            have HF2 : Hid (all = bnd (fldP P k) (fun pc => rStructF room P n (ids ++ [(i : Int)]) (fsnoc f pc.1 pc.2) i) r3) := by show _ = _; rw [HF.out, bnd_ok hidr]
            have HL3 : Hid (r3.length ≤ r1.length) := good_len (good_id _ _) hidr
            have HS2 : Hid (StIn w0 w W2 R m room ids f r1 (.slice ia ids.length ic) (.slice la (flen f) lc)) := S2
            have HK2 : Hid (W2.heap[W1.heap.size]? = some (.cells #[.int .i64 (k : Int)] 3 (0, 0)) ∧ (∀ g, (Value.slice ia ids.length ic).ownBlock = some g → g < W1.heap.size) ∧ w.heap.size + 2 ≤ W1.heap.size) := ⟨by rw [← hW2]; exact heap_new W1 _, fun g hg => (row_own S1.st.idn g hg).2, S1.sz⟩
            clear S1 S2 hrd HW HPP HF FI hidr hW2 hb2
            go_wp2_with fail
            refine FW.mono ?_
            rintro e wx ⟨fn, fa, fb, rfl, eg, G, hwx⟩
            obtain rfl := hwx.symm
            go_wp2_with fail
            refine FI1.mono ?_
            rintro e W3 ⟨rfl, hrd3, hf3⟩
            have HS3 : Hid (StIn w0 w W3 R m room ids f r3 (.slice ia ids.length ic) (.slice la (flen f) lc)) := HS2.out.step hR hf3 hrd3
            have HK3 : Hid (W3.heap[W1.heap.size]? = some (.cells #[.int .i64 (k : Int)] 3 (0, 0))) := hf3.box HK2.out.1 (by have := HK2.out.2.2; omega)
            obtain ⟨⟨b0, b1, b2, b3, b4, b5, b6⟩, c0, c1, c2, c3, c4, c5, c6⟩ := blk7 HS3.out.v
            have HADD : Hid (∀ v' w2, w2.ownsRow (w.heap.size + 2) 3 1 v' (ids.length + 1) (c64 ids ++ [.int .i64 (i : Int)]) → (W3.alloc (.cells #[.int .i64 (i : Int)] 3)).grownBy w2 (Value.slice ia ids.length ic).ownBlock → (v'.ownBlock = (Value.slice ia ids.length ic).ownBlock ∨ w2.ownsRow (W3.alloc (.cells #[.int .i64 (i : Int)] 3)).heap.size 3 1 v' (ids.length + 1) (c64 ids ++ [.int .i64 (i : Int)])) →
                StX (w.heap.size + 2) w2 (ids ++ [(i : Int)]) v' f (.slice la (flen f) lc) ∧ Below (w.heap.size + 2) W3 w2 ∧ ∀ k, k < W3.heap.size → (Value.slice ia ids.length ic).ownBlock ≠ some k → w2.heap[k]? = W3.heap[k]?) := HS3.out.st.addId (alloc_below _ _) HS3.out.sz
            have HOWN : Hid (W3.ownsRow (w.heap.size + 2) 3 1 (.slice ia ids.length ic) ids.length (c64 ids)) := HS3.out.st.idn
            have HIL : Hid (ids.length ≤ id) := H.out.2.2.2.1
            have HM : Hid (ids.length + 1 ≤ maxLen ∧ (ids.length + 1) * j0.bytes ≤ 140737488355328) := by
              have h131 : ids.length + 1 ≤ 140000 := by have := HIL.out; omega
              exact ⟨by unfold maxLen; omega, Nat.le_trans (Nat.mul_le_mul h131 jz2) (by omega)⟩
            have HBB : Hid (w.heap.size + 2 ≤ (W3.alloc (.cells #[.int .i64 (i : Int)] 3)).heap.size) := by show _ ≤ _; have := HS3.out.sz; simp; omega
            clear hrd3 hf3 HS2 FW TH1 FI1
            go_wp2_with (at_builtin; refine wpList_append_fresh rfl (.tmp 31) (.tmp 33) 23 rfl (w.heap.size + 2) 3 j0 _ 1 j0.bytes Try.underlying23 hj0 jz0 jz1 rfl rfl (by decide) _ ids.length (c64 ids) rfl (HOWN.out.alloc _) ⟨W3.heap.size, 0, none⟩ 1 1 [.int .i64 (i : Int)] rfl rfl (fun j u hj => by rw [add0]; exact alloc_cell W3 _ 3 (0, 0) (by simpa using hj)) (by intro u hu; simp at hu; subst hu; rfl) HM.out.1 HM.out.2 HBB.out ?_; intro v4 W4 q1 q2 q3; have HS4 : Hid (StX (w.heap.size + 2) W4 (ids ++ [(i : Int)]) v4 f (.slice la (flen f) lc) ∧ Below (w.heap.size + 2) W3 W4 ∧ ∀ k, k < W3.heap.size → (Value.slice ia ids.length ic).ownBlock ≠ some k → W4.heap[k]? = W3.heap[k]?) := HADD.out v4 W4 q1 q2 q3; clear q1 q2 q3; obtain ⟨ia4, ic4, rfl⟩ := own_sl HS4.out.1.idn; have HV4 : W4.heap[w.heap.size + 1]? = some (.cells #[.int .i64 12, .int .i64 0, .int .i64 0, .int .i64 0, .string { data := #[] }, .slice ia ids.length ic, .slice la (flen f) lc] 26 (0, 0)) := (by rw [HS4.out.2.1.block _ (by omega)]; exact HS3.out.v); obtain ⟨⟨b0, b1, b2, b3, b4, b5, b6⟩, c0, c1, c2, c3, c4, c5, c6⟩ := blk7 HV4)
            have HS4X : StX (w.heap.size + 2) W4 (ids ++ [(i : Int)]) (.slice ia4 (ids.length + 1) ic4) f (.slice la (flen f) lc) := by have h5 := HS4.out.1; rwa [List.length_append] at h5
            have O5 : Only (w.heap.size + 1) W4 (W4.setCell ⟨w.heap.size + 1, 5, none⟩ (.slice ia4 (ids.length + 1) ic4)) := (Only.refl _ _).set _ _
            have hV5 := set_block (j := 5) (u := .slice ia4 (ids.length + 1) ic4) HV4
            simp only [List.setIfInBounds_toArray, List.set_cons_zero, List.set_cons_succ] at hV5
            have HS5 : Hid (StIn w0 w (W4.setCell ⟨w.heap.size + 1, 5, none⟩ (.slice ia4 (ids.length + 1) ic4)) R m room (ids ++ [(i : Int)]) f r3 (.slice ia4 (ids.length + 1) ic4) (.slice la (flen f) lc)) :=
              ⟨(HS3.out.rf.belowB HS4.out.2.1 (by omega)).only O5 (by omega), by rw [O5.block _ (by omega), HS4.out.2.1.block _ (by omega)]; exact HS3.out.z, hV5, HS4X.only (by omega) O5, (HS3.out.rd.below (by omega) HS4.out.2.1).only O5 (by omega), by rw [← O5.size]; exact Nat.le_trans HS3.out.sz HS4.out.2.1.size⟩
            have HK5 : Hid ((W4.setCell ⟨w.heap.size + 1, 5, none⟩ (.slice ia4 (ids.length + 1) ic4)).heap[W1.heap.size]? = some (.cells #[.int .i64 (k : Int)] 3 (0, 0))) := by
              show _ = _
              rw [O5.block _ (by have := HK2.out.2.2; omega), HS4.out.2.2 _ (Array.getElem?_eq_some_iff.1 HK3.out).1 (fun e => by have := HK2.out.2.1 _ e; omega)]
              exact HK3.out
            generalize W4.setCell ⟨w.heap.size + 1, 5, none⟩ (.slice ia4 (ids.length + 1) ic4) = W5 at *
            have HN : Hid ((ids ++ [(i : Int)]).length ≤ i ∧ (∀ x ∈ ids ++ [(i : Int)], i64ok x) ∧ flen f + 1 = (ids ++ [(i : Int)]).length ∧ r1.length < n ∧ flen f + 1 ≤ 140000) := by
              refine ⟨by have := HIL.out; simp; omega, fun x hx => ?_, by have := H.out.2.2.1; simp; omega, by have := H.out.2.1; simp at this; omega, by have := H.out.2.2.1; have := HIL.out; omega⟩
              rcases List.mem_append.1 hx with hx | hx
              · exact H.out.2.2.2.2.1 x hx
              · rw [List.mem_singleton.1 hx]; exact ⟨by omega, by omega⟩
            generalize ids ++ [(i : Int)] = ids5 at *
            generalize ids.length + 1 = L5 at *
            clear HS4 HS4X HV4 O5 hV5 HADD HOWN HM HBB HS3 HK3 HK2 b0 b1 b2 b3 b4 b5 b6 c0 c1 c2 c3 c4 c5 c6 H
            have s0 : W5.drew.cell? ⟨w.heap.size + 1, 6, none⟩ = some (.slice la (flen f) lc) := cell_of_block HS5.out.v rfl
            refine wp_region_held_drew (S := fun _ => True) (by kernel_rfl) trivial (fun hHeld => ?_)
            have hbd : Below W5.heap.size W5 W5.drew := (Below.refl _ W5).drew
            have HS6 : Hid (StIn w0 w W5.drew R m room ids5 f r3 (.slice ia4 L5 ic4) (.slice la (flen f) lc)) := HS5.out.step hR (RF.of_below hbd) (HS5.out.rd.later hbd)
            have GG := G W5.drew r3 HS6.out.rf HK5.out HS6.out.rd
            clear G HK5 HS5 hbd
            refine wpAnyH_take (i := 0) (v := ?_) rfl (by kernel_rfl) (by kernel_rfl) (by kernel_rfl) (fun _ _ _ h => h) (Or.inl ⟨by rfl, ?_⟩) (by assumption) ?_
            rotate_left
            · intro w hSw
              (try dsimp only at hSw)
              (try (obtain ⟨_, _, _, _, _, _, _⟩ := hSw))
              (try (obtain ⟨_, _⟩ := hSw))
              go_simp
              (try with_reducible rfl)
            (try simp only [Act.put, List.setIfInBounds_toArray, List.set_cons_zero, List.set_cons_succ])
            refine wpAnyH_take (i := 2) (v := ?_) rfl (by kernel_rfl) (by kernel_rfl) (by kernel_rfl) (fun _ _ _ h => h) (Or.inl ⟨by rfl, ?_⟩) (by assumption) ?_
            rotate_left
            · intro w hSw
              (try dsimp only at hSw)
              (try (obtain ⟨_, _, _, _, _, _, _⟩ := hSw))
              (try (obtain ⟨_, _⟩ := hSw))
              go_simp
              (try with_reducible rfl)
            (try simp only [Act.put, List.setIfInBounds_toArray, List.set_cons_zero, List.set_cons_succ])
            refine wpAnyH_ready (rs := [1, 3]) (by kernel_rfl) (by simp) ?_
            refine AllReadyH.cons rfl (fun K hK => ?_) (AllReadyH.cons rfl (fun K hK => ?_) AllReadyH.nil)
            · go_simp
              refine hK.out _ _ trivial (fun _ => ?_)
              clear hK K
              (try simp only [Act.put, List.setIfInBounds_toArray, List.set_cons_zero, List.set_cons_succ])
              refine wpAnyH_ready (rs := [3]) (by kernel_rfl) (by simp) ?_
              refine AllReadyH.cons rfl (fun K hK => ?_) AllReadyH.nil
              go_simp
              refine GG _ ?_ ?_
              · intro p c rest W7 v he hf7 hrd7 hvx
                obtain ⟨jv, kv, rfl, hp, hlc, hi', zs, hy, hel⟩ := hvx
                obtain ⟨ja, jc, rfl⟩ := own_sl hi'.1
                obtain ⟨ka, kc, rfl⟩ := own_sl hy.1
                have HS7 : Hid (StIn w0 w W7 R m room ids5 f rest (.slice ia4 L5 ic4) (.slice la (flen f) lc)) := HS6.out.step hR hf7 hrd7
                have s7 : W7.cell? ⟨w.heap.size + 1, 6, none⟩ = some (.slice la (flen f) lc) := cell_of_block HS7.out.v rfl
                have l7 : w.heap.size + 1 < W7.heap.size := block_lt_of_cell s7
                obtain ⟨la9, lc9, W9, hrun, s9, f9, hst9⟩ := st_grow HS7.out hR (N := W5.drew.heap.size) (fun g hg => (row_own HS6.out.st.idn g hg).2) (fun g hg => (row_own (HS6.out.st.row.choose_spec).1 g hg).2) HS6.out.sz ⟨_, _, rfl, hp, hlc, hi', zs, hy, hel⟩ HN.out.2.2.2.2
                have HS9 : Hid (StIn w0 w (W9.setCell ⟨w.heap.size + 1, 6, none⟩ (.slice la9 (flen f + 1) lc9)) R m room ids5 (fsnoc f p c) rest (.slice ia4 L5 ic4) (.slice la9 (flen f + 1) lc9)) := hst9
                have HE9 : Hid (rStructF room P n ids5 (fsnoc f p c) i rest = all ∧ rest.length ≤ r3.length) := ⟨by rw [HF2.out, bnd_ok he], by unfold fldP at he; split at he; exact good_len (good_ok _) he; exact good_len (HG.out _) he⟩
                clear hst9 hi' hy hel hp hlc HS6 HS7 GG he hf7 hrd7
                go_simp
                refine hK.out _ _ trivial (fun _ => ?_)
                clear hK K
                (try simp only [Act.put, List.setIfInBounds_toArray, List.set_cons_zero, List.set_cons_succ])
                refine wpAnyH_ready (rs := [4]) (by kernel_rfl) (by simp) ?_
                refine AllReadyH.cons rfl (fun K hK => ?_) AllReadyH.nil
                go_simp
                refine hK.out _ _ trivial (fun _ => ?_)
                clear hK K
                (try simp only [Act.put, List.setIfInBounds_toArray, List.set_cons_zero, List.set_cons_succ])
                refine wpAnyH_ready (rs := [5]) (by kernel_rfl) (by simp) ?_
                refine AllReadyH.cons rfl (fun K hK => ?_) AllReadyH.nil
                refine ready_append rfl (.tmp 37) (.tmp 40) 24 rfl _ _ _ rfl rfl hrun ?_
                refine hK.out _ _ trivial (fun _ => ?_)
                clear hK K
                (try simp only [Act.put, List.setIfInBounds_toArray, List.set_cons_zero, List.set_cons_succ])
                refine wpAnyH_take (i := 6) (v := ?_) rfl (by kernel_rfl) (by kernel_rfl) (by kernel_rfl) (fun _ _ _ h => h) (Or.inl ⟨by rfl, ?_⟩) (by assumption) ?_
                rotate_left
                · intro w hSw
                  (try dsimp only at hSw)
                  (try (obtain ⟨_, _, _, _, _, _, _⟩ := hSw))
                  (try (obtain ⟨_, _⟩ := hSw))
                  go_simp
                  (try with_reducible rfl)
                (try simp only [Act.put, List.setIfInBounds_toArray, List.set_cons_zero, List.set_cons_succ])
                refine wpAnyH_ready (rs := [7]) (by kernel_rfl) (by simp) ?_
                refine AllReadyH.cons rfl (fun K hK => ?_) AllReadyH.nil
                go_simp
                refine hK.out _ _ trivial (fun _ => ?_)
                clear hK K
                refine wpAnyH_done (by kernel_rfl) ?_ _
                go_wp2_with fail
                go_roundw
                case rel => exact ⟨i, n, ids5, fsnoc f p c, rest, _, _, rfl, hile.2, HS9.out, by have := HE9.out.2; have := HL3.out; have := HN.out.2.2.2.1; omega, by rw [flen_snoc]; exact HN.out.2.2.1, HN.out.1, HN.out.2.1, HE9.out.1⟩
                case measure => simp [intOf]; omega
              · intro s W7 he hf7
                have q := QNO s W7 (by rw [HF2.out, bnd_err he]) (HS6.out.rf.trans hf7)
                obtain ⟨ch, hch⟩ : ∃ ch, gives s = .panicked ch := ⟨_, rfl⟩
                rw [hch] at q ⊢
                exact ⟨rfl, q⟩
            · go_simp
              refine GG _ ?_ ?_
              · intro p c rest W7 v he hf7 hrd7 hvx
                obtain ⟨jv, kv, rfl, hp, hlc, hi', zs, hy, hel⟩ := hvx
                obtain ⟨ja, jc, rfl⟩ := own_sl hi'.1
                obtain ⟨ka, kc, rfl⟩ := own_sl hy.1
                have HS7 : Hid (StIn w0 w W7 R m room ids5 f rest (.slice ia4 L5 ic4) (.slice la (flen f) lc)) := HS6.out.step hR hf7 hrd7
                have s7 : W7.cell? ⟨w.heap.size + 1, 6, none⟩ = some (.slice la (flen f) lc) := cell_of_block HS7.out.v rfl
                have l7 : w.heap.size + 1 < W7.heap.size := block_lt_of_cell s7
                obtain ⟨la9, lc9, W9, hrun, s9, f9, hst9⟩ := st_grow HS7.out hR (N := W5.drew.heap.size) (fun g hg => (row_own HS6.out.st.idn g hg).2) (fun g hg => (row_own (HS6.out.st.row.choose_spec).1 g hg).2) HS6.out.sz ⟨_, _, rfl, hp, hlc, hi', zs, hy, hel⟩ HN.out.2.2.2.2
                have HS9 : Hid (StIn w0 w (W9.setCell ⟨w.heap.size + 1, 6, none⟩ (.slice la9 (flen f + 1) lc9)) R m room ids5 (fsnoc f p c) rest (.slice ia4 L5 ic4) (.slice la9 (flen f + 1) lc9)) := hst9
                have HE9 : Hid (rStructF room P n ids5 (fsnoc f p c) i rest = all ∧ rest.length ≤ r3.length) := ⟨by rw [HF2.out, bnd_ok he], by unfold fldP at he; split at he; exact good_len (good_ok _) he; exact good_len (HG.out _) he⟩
                clear hst9 hi' hy hel hp hlc HS6 HS7 GG he hf7 hrd7
                go_simp
                refine hK.out _ _ trivial (fun _ => ?_)
                clear hK K
                (try simp only [Act.put, List.setIfInBounds_toArray, List.set_cons_zero, List.set_cons_succ])
                refine wpAnyH_ready (rs := [1, 4]) (by kernel_rfl) (by simp) ?_
                refine AllReadyH.cons rfl (fun K hK => ?_) (AllReadyH.cons rfl (fun K hK => ?_) AllReadyH.nil)
                · go_simp
                  refine hK.out _ _ trivial (fun _ => ?_)
                  clear hK K
                  (try simp only [Act.put, List.setIfInBounds_toArray, List.set_cons_zero, List.set_cons_succ])
                  refine wpAnyH_ready (rs := [4]) (by kernel_rfl) (by simp) ?_
                  refine AllReadyH.cons rfl (fun K hK => ?_) AllReadyH.nil
                  go_simp
                  refine hK.out _ _ trivial (fun _ => ?_)
                  clear hK K
                  (try simp only [Act.put, List.setIfInBounds_toArray, List.set_cons_zero, List.set_cons_succ])
                  refine wpAnyH_ready (rs := [5]) (by kernel_rfl) (by simp) ?_
                  refine AllReadyH.cons rfl (fun K hK => ?_) AllReadyH.nil
                  refine ready_append rfl (.tmp 37) (.tmp 40) 24 rfl _ _ _ rfl rfl hrun ?_
                  refine hK.out _ _ trivial (fun _ => ?_)
                  clear hK K
                  (try simp only [Act.put, List.setIfInBounds_toArray, List.set_cons_zero, List.set_cons_succ])
                  refine wpAnyH_take (i := 6) (v := ?_) rfl (by kernel_rfl) (by kernel_rfl) (by kernel_rfl) (fun _ _ _ h => h) (Or.inl ⟨by rfl, ?_⟩) (by assumption) ?_
                  rotate_left
                  · intro w hSw
                    (try dsimp only at hSw)
                    (try (obtain ⟨_, _, _, _, _, _, _⟩ := hSw))
                    (try (obtain ⟨_, _⟩ := hSw))
                    go_simp
                    (try with_reducible rfl)
                  (try simp only [Act.put, List.setIfInBounds_toArray, List.set_cons_zero, List.set_cons_succ])
                  refine wpAnyH_ready (rs := [7]) (by kernel_rfl) (by simp) ?_
                  refine AllReadyH.cons rfl (fun K hK => ?_) AllReadyH.nil
                  go_simp
                  refine hK.out _ _ trivial (fun _ => ?_)
                  clear hK K
                  refine wpAnyH_done (by kernel_rfl) ?_ _
                  go_wp2_with fail
                  go_roundw
                  case rel => exact ⟨i, n, ids5, fsnoc f p c, rest, _, _, rfl, hile.2, HS9.out, by have := HE9.out.2; have := HL3.out; have := HN.out.2.2.2.1; omega, by rw [flen_snoc]; exact HN.out.2.2.1, HN.out.1, HN.out.2.1, HE9.out.1⟩
                  case measure => simp [intOf]; omega
                · go_simp
                  refine hK.out _ _ trivial (fun _ => ?_)
                  clear hK K
                  (try simp only [Act.put, List.setIfInBounds_toArray, List.set_cons_zero, List.set_cons_succ])
                  have s8 : (bx W7 p c ja jc ka kc).cell? ⟨w.heap.size + 1, 6, none⟩ = some (.slice la (flen f) lc) := cell_later (alloc_below _ _) s7
                  refine wpAnyH_ready (rs := [1]) (by kernel_rfl) (by simp) ?_
                  refine AllReadyH.cons rfl (fun K hK => ?_) AllReadyH.nil
                  go_simp
                  refine hK.out _ _ trivial (fun _ => ?_)
                  clear hK K
                  (try simp only [Act.put, List.setIfInBounds_toArray, List.set_cons_zero, List.set_cons_succ])
                  refine wpAnyH_ready (rs := [5]) (by kernel_rfl) (by simp) ?_
                  refine AllReadyH.cons rfl (fun K hK => ?_) AllReadyH.nil
                  refine ready_append rfl (.tmp 37) (.tmp 40) 24 rfl _ _ _ rfl rfl hrun ?_
                  refine hK.out _ _ trivial (fun _ => ?_)
                  clear hK K
                  (try simp only [Act.put, List.setIfInBounds_toArray, List.set_cons_zero, List.set_cons_succ])
                  refine wpAnyH_take (i := 6) (v := ?_) rfl (by kernel_rfl) (by kernel_rfl) (by kernel_rfl) (fun _ _ _ h => h) (Or.inl ⟨by rfl, ?_⟩) (by assumption) ?_
                  rotate_left
                  · intro w hSw
                    (try dsimp only at hSw)
                    (try (obtain ⟨_, _, _, _, _, _, _⟩ := hSw))
                    (try (obtain ⟨_, _⟩ := hSw))
                    go_simp
                    (try with_reducible rfl)
                  (try simp only [Act.put, List.setIfInBounds_toArray, List.set_cons_zero, List.set_cons_succ])
                  refine wpAnyH_ready (rs := [7]) (by kernel_rfl) (by simp) ?_
                  refine AllReadyH.cons rfl (fun K hK => ?_) AllReadyH.nil
                  go_simp
                  refine hK.out _ _ trivial (fun _ => ?_)
                  clear hK K
                  refine wpAnyH_done (by kernel_rfl) ?_ _
                  go_wp2_with fail
                  go_roundw
                  case rel => exact ⟨i, n, ids5, fsnoc f p c, rest, _, _, rfl, hile.2, HS9.out, by have := HE9.out.2; have := HL3.out; have := HN.out.2.2.2.1; omega, by rw [flen_snoc]; exact HN.out.2.2.1, HN.out.1, HN.out.2.1, HE9.out.1⟩
                  case measure => simp [intOf]; omega
              · intro s W7 he hf7
                have q := QNO s W7 (by rw [HF2.out, bnd_err he]) (HS6.out.rf.trans hf7)
                obtain ⟨ch, hch⟩ : ∃ ch, gives s = .panicked ch := ⟨_, rfl⟩
                rw [hch] at q ⊢
                exact ⟨rfl, q⟩
      · have n1 : ¬ (k : Int) = 1 := by omega
        have n2 : ¬ (k : Int) = 2 := by omega
        have ho : wayOk k room = false := by
          cases hh : wayOk k room
          · rfl
          · exact absurd (.inr hh) hwy
        have q := fun w' hf => QNO false w' (by
          rw [← H.out.2.2.2.2.2, rStructF_succ, bnd_ok (show rHalves (b :: r1) = .ok ((b / 16, b % 16), r1) from rfl), ← hst, ← hk]
          dsimp only
          rw [if_neg h0, if_pos ⟨fun hx => hwy (.inl hx), ho⟩]) hf
        clear QOK QNO TH hst hk HPP
        rcases Nat.eq_zero_or_pos st with hs0 | hs0
        · subst hs0
          have hk0 : ¬ (k : Int) = 0 := by omega
          go_wp2_with fail
          refine TH1.mono ?_
          rintro e W1 ⟨rfl, hrd1, hf1⟩
          have S1 := H.out.1.step hR hf1 hrd1
          have FB := fieldWay_bad w0 W1 R m r1 room k n1 n2 hrd1 (HW.out.rf S1.rf) ho
          have q1 := q _ (S1.rf.trans (RF.of_below (alloc_below W1 (.cells #[.int .i64 (k : Int)] 3))))
          clear S1 H hrd HG HW
          go_wp2_with fail
          refine FB.mono ?_
          rintro e wx ⟨rfl, hwx⟩
          subst hwx
          unfold gives at q1 ⊢
          go_wp2_with fail
          exact ⟨rfl, q1⟩
        · have hs0' : ¬ (st : Int) = 0 := by omega
          go_wp2_with fail
          refine TH1.mono ?_
          rintro e W1 ⟨rfl, hrd1, hf1⟩
          have S1 := H.out.1.step hR hf1 hrd1
          have FB := fieldWay_bad w0 W1 R m r1 room k n1 n2 hrd1 (HW.out.rf S1.rf) ho
          have q1 := q _ (S1.rf.trans (RF.of_below (alloc_below W1 (.cells #[.int .i64 (k : Int)] 3))))
          clear S1 H hrd HG HW
          go_wp2_with fail
          refine FB.mono ?_
          rintro e wx ⟨rfl, hwx⟩
          subst hwx
          unfold gives at q1 ⊢
          go_wp2_with fail
          exact ⟨rfl, q1⟩
end Go.Proofs.Ytikoddlidhefpaa
