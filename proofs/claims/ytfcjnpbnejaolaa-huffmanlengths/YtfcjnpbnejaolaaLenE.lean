/-
  huffman.packSteps: what can be taken, bit by bit.
-/
import Derived.Test.YtfcjnpbnejaolaaLenD
namespace Go.Proofs.Ytfcjnpbnejaolaa
set_option linter.unusedVariables false
set_option linter.unusedSimpArgs false
open Go.ChangeShapes Go.WideShapes Go.ChangeAt Go.RowKit Go.Sort Go.Shelf

theorem infoS : (Try.prog.info? 46).map (fun i => (i.zero, i.size, i.bytes)) = some (some (.slice none 0 0), 1, 24) := by kernel_rfl
/-- a row of slices that is a whole block -/
def SVec (W : World) (R : Nat) (vs : List Value) : Prop := W.heap[R]? = some (.cells vs.toArray 46 (0, 0))
theorem SVec.cell {W : World} {R : Nat} {vs : List Value} (h : SVec W R vs) {j : Nat} {v : Value} (hj : vs[j]? = some v) : W.cell? ⟨R, j, none⟩ = some v := cell_of_block h (by simpa using hj)
theorem SVec.frozen {W : World} {R : Nat} {vs : List Value} (h : SVec W R vs) (j : Nat) : W.frozen? ⟨R, j, none⟩ = false := frozen_of_block h
theorem SVec.set {W : World} {R : Nat} {vs : List Value} (h : SVec W R vs) (j : Nat) (v : Value) : SVec (W.setCell ⟨R, j, none⟩ v) R (vs.set j v) := by
  unfold SVec at *
  rw [set_block h]
  simp
theorem SVec.lt {W : World} {R : Nat} {vs : List Value} (h : SVec W R vs) : R < W.heap.size := (Array.getElem?_eq_some_iff.1 h).1
theorem made_s (n : Nat) : (madeCells (Value.slice none 0 0).cells (n * 1)).toList = List.replicate n (Value.slice none 0 0) := by
  have e : (Value.slice none 0 0).cells = #[Value.slice none 0 0] := rfl
  rw [e]
  unfold madeCells
  apply List.ext_getElem
  · simp
  · intro i h1 h2
    simp [Nat.mod_one]
theorem wpList_makeS (w : World) {ops : Array Oper} {rest : List Oper} {o : Oper} {a : Act} {Q : Exit → Act → World → Prop}
    (hg : o.guard = none) (l c : Operand) (hop : o.op = Op.makeSlice 45 l c) (m : Nat) (hl : a.eval l = .int .i64 (m : Int)) (hc : a.eval c = .int .i64 (m : Int)) (b2 : m ≤ 100000)
    (hK : ∀ w', SVec w' w.heap.size (List.replicate m (.slice none 0 0)) → Below w.heap.size w w' → wpList Try.prog ops Q rest (a.put o.dst (.slice (some ⟨w.heap.size, 0, none⟩) m m)) w') :
    wpList Try.prog ops Q (o :: rest) a w := by
  obtain ⟨i0, hi, hz0, hz1, hz2⟩ := info_parts infoS
  refine wpList_make_full _ hg l c 45 hop w.heap.size 46 i0 (.slice none 0 0) 1 Try.underlying45 hi hz0 hz1 _ _ _ _ m hl hc rfl rfl (by rw [hz2]; omega) (by unfold maxLen; omega) (Nat.le_refl _) ?_
  intro w1 r1 r2
  have hv := own_whole r1
  rw [made_s] at hv
  exact hK _ hv ((Below.refl _ w).grown r2 (Nat.le_refl _) (fun _ e => by cases e))

/-- a slice of packages, in a block from B on that is not R -/
def SlP (wr : World) (B R : Nat) (v : Value) (l : List Pk) : Prop := ∃ g c, v = .slice (some ⟨g, 0, none⟩) l.length c ∧ PAt wr g 0 l ∧ B ≤ g ∧ g ≠ R ∧ l.length ≤ c
theorem SlP.later {wr X : World} {B R : Nat} {v : Value} {l : List Pk} (h : SlP wr B R v l) (hb : Below wr.heap.size wr X) : SlP X B R v l := by
  obtain ⟨g, c, h1, h2, h3⟩ := h
  exact ⟨g, c, h1, h2.later hb, h3⟩
theorem SlP.set {wr : World} {B R : Nat} {v : Value} {l : List Pk} (h : SlP wr B R v l) (j : Nat) (u : Value) : SlP (wr.setCell ⟨R, j, none⟩ u) B R v l := by
  obtain ⟨g, c, h1, h2, h3, h4, h5⟩ := h
  refine ⟨g, c, h1, fun i p hi => ?_, h3, h4, h5⟩
  have := h2 i p hi
  exact ⟨by rw [World.cell?_setCell_other _ _ _ _ (by simp [h4])]; exact this.1, by rw [World.cell?_setCell_other _ _ _ _ (by simp [h4])]; exact this.2⟩
/-- the steps so far -/
structure StA (w wr : World) (R : Nat) (s : List Pk) (vs : List Value) (limit k : Nat) : Prop where
  blk : SVec wr R vs
  len : vs.length = limit
  at_ : ∀ j, j < k → ∃ v, vs[j]? = some v ∧ SlP wr w.heap.size R v (stp s j)
  bel : Below w.heap.size w wr
  low : w.heap.size ≤ R
theorem StA.later {w wr X : World} {R : Nat} {s : List Pk} {vs : List Value} {limit k : Nat} (h : StA w wr R s vs limit k) (hb : Below wr.heap.size wr X) : StA w X R s vs limit k :=
  ⟨below_at hb h.blk, h.len, fun j hj => by obtain ⟨v, h1, h2⟩ := h.at_ j hj; exact ⟨v, h1, h2.later hb⟩, h.bel.trans (hb.mono h.bel.size), h.low⟩
theorem StA.set {w wr : World} {R : Nat} {s : List Pk} {vs : List Value} {limit k : Nat} (h : StA w wr R s vs limit k) (i : Nat) (hi : k ≤ i) (u : Value) : StA w (wr.setCell ⟨R, i, none⟩ u) R s (vs.set i u) limit k := by
  refine ⟨h.blk.set i u, by rw [List.length_set, h.len], fun j hj => ?_, h.bel.setCell (p := ⟨R, i, none⟩) h.low _, h.low⟩
  obtain ⟨v, h1, h2⟩ := h.at_ j hj
  exact ⟨v, by rw [List.getElem?_set_ne (by omega)]; exact h1, h2.set i u⟩
theorem StA.more {w wr : World} {R : Nat} {s : List Pk} {vs : List Value} {limit k : Nat} (h : StA w wr R s vs limit k) (v : Value) (hv : vs[k]? = some v) (hs : SlP wr w.heap.size R v (stp s k)) : StA w wr R s vs limit (k + 1) := by
  refine ⟨h.blk, h.len, fun j hj => ?_, h.bel, h.low⟩
  by_cases e : j = k
  · subst e; exact ⟨v, hv, hs⟩
  · exact h.at_ j (by omega)

/-- the single packages so far -/
def sglK (c sy : List Nat) (k : Nat) : List Pk := (sgl c sy).take k ++ List.replicate (sy.length - k) (0, false)
theorem sgl_len (c sy : List Nat) : (sgl c sy).length = sy.length := by simp [sgl]
theorem sglK_succ (c sy : List Nat) (k : Nat) (hk : k < sy.length) : (sglK c sy k).set k (c.getD (sy.getD k 0) 0, false) = sglK c sy (k + 1) := by
  unfold sglK
  have hlk : ((sgl c sy).take k).length = k := by rw [List.length_take, sgl_len]; omega
  rw [List.set_append_right _ _ (by omega), hlk, Nat.sub_self, show sy.length - k = (sy.length - (k + 1)) + 1 from by omega, List.replicate_succ, List.set_cons_zero]
  have e : (sgl c sy).take (k + 1) = (sgl c sy).take k ++ [(c.getD (sy.getD k 0) 0, false)] := by
    rw [List.take_succ_eq_append_getElem (by rw [sgl_len]; exact hk)]
    congr 1
    unfold sgl
    rw [List.getElem_map, getD_eq hk]
  rw [e, List.append_assoc]
  rfl
theorem sglK_end (c sy : List Nat) : sglK c sy sy.length = sgl c sy := by
  unfold sglK
  rw [Nat.sub_self, List.replicate_zero, List.append_nil, List.take_of_length_le (by rw [sgl_len]; exact Nat.le_refl _)]

set_option maxRecDepth 10000 in
set_option maxHeartbeats 4000000 in
theorem packSteps_any (w : World) (a : Option Addr) (len cap : Nat) (c : List Nat) (gs os n cs : Nat) (sy : List Nat) (limit : Nat) (hs : Src w a len cap (cn c)) (hlen : len ≤ 1000) (hcb : ∀ x, c.getD x 0 ≤ 2147483647)
    (hy : Src w (some ⟨gs, os, none⟩) n cs (cn sy)) (hsy : ∀ x ∈ sy, x < len) (hn : n ≤ 1000) (hn0 : 0 < n) (hlim : limit ≤ 15) :
    Calls Try.prog 22 #[.slice a len cap, .slice (some ⟨gs, os, none⟩) n cs, .int .i64 limit] w fun e w' => ∃ R vs, e = .returned (.slice (some ⟨R, 0, none⟩) limit limit) ∧ StA w w' R (sgl c sy) vs limit limit := by
  have hl : c.length = len := by have := hs.1; rwa [cn_len] at this
  have hly : sy.length = n := by have := hy.1; rwa [cn_len] at this
  have hlen' : (len : Int) ≤ 1000 := by omega
  have hn' : (n : Int) ≤ 1000 := by omega
  have hlim' : (limit : Int) ≤ 15 := by omega
  have HS : Hid (∀ k, k < n → ∃ g off, a = some ⟨g, off, none⟩ ∧ sy.getD k 0 < len ∧ w.cell? ⟨gs, os + k, none⟩ = some (.int .i64 ((sy.getD k 0 : Nat) : Int)) ∧ w.cell? ⟨g, off + sy.getD k 0, none⟩ = some (.int .i64 ((c.getD (sy.getD k 0) 0 : Nat) : Int)) ∧ gs < w.heap.size ∧ g < w.heap.size) := fun k hk => by
    obtain ⟨g1, o1, e1, hc1⟩ := src_atn hy hk
    cases e1
    have hx : sy.getD k 0 < len := by rw [getD_eq (by omega)]; exact hsy _ (List.getElem_mem _)
    obtain ⟨g2, o2, e2, hc2⟩ := src_atn hs hx
    exact ⟨g2, o2, e2, hx, hc1, hc2, World.block_lt_of_cell? _ _ hc1, World.block_lt_of_cell? _ _ hc2⟩
  have HLY : Hid (sy.length = n) := hly
  have HCB : Hid (∀ x, c.getD x 0 ≤ 2147483647) := hcb
  have HW : Hid (∀ j, j ≤ 15 → (∀ p ∈ stp (sgl c sy) j, p.1 ≤ 70368744177664) ∧ (stp (sgl c sy) j).length ≤ 2000) := by
    intro j hj
    refine ⟨fun p hp => ?_, by have := stp_len_le (sgl c sy) j; rw [sgl_len] at this; omega⟩
    have h1 := stp_le (sgl c sy) 2147483647 (by
      intro p hp
      obtain ⟨x, _, rfl⟩ := List.mem_map.1 hp
      exact hcb x) j p hp
    have h2 : 2 ^ j ≤ 2 ^ 15 := Nat.pow_le_pow_right (by omega) hj
    have h3 : 2147483647 * 2 ^ j ≤ 2147483647 * 2 ^ 15 := Nat.mul_le_mul_left _ h2
    omega
  refine calls_of fun Q HQ => ?_
  have QOK : ∀ R vs w', Hid (StA w w' R (sgl c sy) vs limit limit) → Q (.returned (.slice (some ⟨R, 0, none⟩) limit limit)) w' := fun R vs w' h => HQ _ _ ⟨R, vs, rfl, h.out⟩
  clear hs hy hsy hl hly hcb HQ
  go_enter Try.func22, Try.ntmps22
  go_wp2_with (at_make; refine wpList_makeP _ rfl _ _ rfl n rfl rfl (by omega) ?_; intro w1 hv1 hb1)
  go_loopw [18] (fun k wr => ∃ j : Nat, j ≤ n ∧ k = .int .i64 j ∧ Hid (PVec wr w.heap.size (sglK c sy j)) ∧ Below w.heap.size w wr) (fun k _ => n - (intOf k).toNat)
  case atStart => exact ⟨0, Nat.zero_le _, rfl, by show PVec _ _ _; unfold sglK; rw [HLY.out]; simpa using hv1, hb1⟩
  case round =>
    clear hv1 hb1
    obtain ⟨j, hj, rfl, HV, bel⟩ := hrel
    by_cases hlt : j < n
    · have hlt' : (j : Int) < (n : Int) := by omega
      obtain ⟨g, off, rfl, hx, q1, q2, hgs, hg⟩ := HS.out j hlt
      have d1 := (bel.cell (p := ⟨gs, os + j, none⟩) hgs).trans q1
      have d2 := (bel.cell (p := ⟨g, off + sy.getD j 0, none⟩) hg).trans q2
      have HN : Hid (PVec ((wr.setCell ⟨w.heap.size, j * 2, none⟩ (.int .i64 ((c.getD (sy.getD j 0) 0 : Nat) : Int))).setCell ⟨w.heap.size, j * 2 + 1, none⟩ (.bool false)) w.heap.size (sglK c sy (j + 1))) := by
        have h := HV.out.set j (c.getD (sy.getD j 0) 0, false)
        rw [sglK_succ c sy j (by rw [HLY.out]; exact hlt)] at h
        exact h
      have hcv := HCB.out (sy.getD j 0)
      generalize c.getD (sy.getD j 0) 0 = y at *
      generalize sy.getD j 0 = x at *
      have hx' : (x : Int) < (len : Int) := by omega
      have v1 := HV.out
      have hps : j * 2 + 1 < (cp (sglK c sy j)).length := by
        rw [cp_len]
        have : (sglK c sy j).length = n := by unfold sglK; rw [List.length_append, List.length_take, List.length_replicate, sgl_len, HLY.out]; omega
        omega
      obtain ⟨u0, e0⟩ : ∃ u, wr.cell? ⟨w.heap.size, j * 2, none⟩ = some u := ⟨_, cell_of_block v1 (Array.getElem?_eq_getElem (by rw [List.size_toArray]; omega))⟩
      obtain ⟨u1, e1⟩ : ∃ u, wr.cell? ⟨w.heap.size, j * 2 + 1, none⟩ = some u := ⟨_, cell_of_block v1 (Array.getElem?_eq_getElem (by rw [List.size_toArray]; omega))⟩
      have f0 : wr.frozen? ⟨w.heap.size, j * 2, none⟩ = false := v1.frozen _
      have f1 : wr.frozen? ⟨w.heap.size, j * 2 + 1, none⟩ = false := v1.frozen _
      have B2 := (bel.setCell (p := ⟨w.heap.size, j * 2, none⟩) (Nat.le_refl _) (.int .i64 (y : Int))).setCell (p := ⟨w.heap.size, j * 2 + 1, none⟩) (Nat.le_refl _) (.bool false)
      clear q1 q2 v1 hps HV
      go_wp2_with fail
      go_roundw
      case rel => exact ⟨j + 1, by omega, by go_num, HN, B2⟩
      case measure => simp [intOf]; omega
    · have hge : (n : Int) ≤ (j : Int) := by omega
      have HE : Hid (PVec wr w.heap.size (sgl c sy)) := by
        have h := HV.out
        rw [show j = sy.length by rw [HLY.out]; omega, sglK_end] at h
        exact h
      clear HV HCB HS
      have hz := bel.size
      have HLS : Hid ((sgl c sy).length = n) := by show _ = _; rw [sgl_len, HLY.out]
      generalize sgl c sy = s at *
      go_wp2_with (at_make; refine wpList_makeS _ rfl _ _ rfl limit rfl rfl (by omega) ?_; intro w2 hv2 hb2)
      have hs2 : SlP w2 w.heap.size wr.heap.size (.slice (some ⟨w.heap.size, 0, none⟩) n n) s := by
        refine ⟨w.heap.size, n, by rw [HLS.out], HE.out.at.later hb2, Nat.le_refl _, ?_, by rw [HLS.out]; exact Nat.le_refl _⟩
        have := HE.out.lt
        omega
      have st2 : StA w w2 wr.heap.size s (List.replicate limit (.slice none 0 0)) limit 0 := ⟨hv2, by simp, fun j hj => by omega, bel.trans (hb2.mono hz), hz⟩
      generalize wr.heap.size = R at *
      clear hv2 hb2 HE hj hlt hge
      go_loopw [36] (fun k wr => ∃ j : Nat, j ≤ limit ∧ k = .int .i64 j ∧ Hid ((∃ vs, StA w wr R s vs limit j) ∧ SlP wr w.heap.size R (.slice (some ⟨w.heap.size, 0, none⟩) n n) s)) (fun k _ => limit - (intOf k).toNat)
      case atStart => exact ⟨0, Nat.zero_le _, rfl, ⟨_, st2⟩, hs2⟩
      case round =>
        clear st2 hs2
        obtain ⟨j, hj, rfl, HST⟩ := hrel
        obtain ⟨⟨vs, st⟩, hsl⟩ := HST.out
        clear HST
        by_cases hlt : j < limit
        · have hlt' : (j : Int) < (limit : Int) := by omega
          obtain ⟨uj, hvj⟩ : ∃ u, vs[j]? = some u := ⟨vs[j]'(by rw [st.len]; exact hlt), List.getElem?_eq_getElem _⟩
          have c0 := st.blk.cell hvj
          have f0 := st.blk.frozen j
          have st1 := st.set j (Nat.le_refl _) (.slice (some ⟨w.heap.size, 0, none⟩) n n)
          have hsl1 := hsl.set j (.slice (some ⟨w.heap.size, 0, none⟩) n n)
          have hv1 : (vs.set j (.slice (some ⟨w.heap.size, 0, none⟩) n n))[j]? = some (.slice (some ⟨w.heap.size, 0, none⟩) n n) := by rw [List.getElem?_set_self (by rw [st.len]; exact hlt)]
          by_cases h0 : j = 0
          · subst h0
            have HST : Hid ((∃ vs, StA w (wr.setCell ⟨R, 0, none⟩ (.slice (some ⟨w.heap.size, 0, none⟩) n n)) R s vs limit 1) ∧ SlP (wr.setCell ⟨R, 0, none⟩ (.slice (some ⟨w.heap.size, 0, none⟩) n n)) w.heap.size R (.slice (some ⟨w.heap.size, 0, none⟩) n n) s) := ⟨⟨_, st1.more _ hv1 hsl1⟩, hsl1⟩
            clear st st1 hsl hsl1 hv1 hvj
            go_wp2_with fail
            go_roundw
            case rel => exact ⟨1, hlt, by go_num, HST⟩
            case measure => simp [intOf]; omega
          · have h0' : (0 : Int) < (j : Int) := by omega
            obtain ⟨i, hi⟩ : ∃ i, i = j - 1 := ⟨_, rfl⟩
            have hji : (j : Int) - 1 = (i : Int) := by omega
            have hil : (i : Int) < (limit : Int) := by omega
            obtain ⟨v, hv, hvp⟩ := st1.at_ i (by omega)
            have hij : ¬ i = j := by omega
            have hij2 : ¬ j = i := by omega
            have hv0 : vs[i]? = some v := by rw [List.getElem?_set_ne (by omega)] at hv; exact hv
            have hcv := st.blk.cell hv0
            obtain ⟨gi, ci, rfl, pi, hgi, hgR, hli⟩ := hvp
            obtain ⟨hwm, hwl⟩ := HW.out i (by omega)
            have K1 := pairsOf_any (wr.setCell ⟨R, j, none⟩ (.slice (some ⟨w.heap.size, 0, none⟩) n n)) gi 0 _ ci (stp s i) rfl hwl pi 70368744177664 hwm (by omega)
            have HSJ : Hid (stp s j = mrg s (prs (stp s i))) := by show _ = _; rw [show j = i + 1 from by omega]; rfl
            have hpl : (prs (stp s i)).length ≤ 1000 := by rw [prs_len]; omega
            have HB3 : Hid (Below w.heap.size w (wr.setCell ⟨R, j, none⟩ (.slice (some ⟨w.heap.size, 0, none⟩) n n))) := st1.bel
            have hlow := st.low
            have hjl : j < vs.length := by rw [st.len]; exact hlt
            have HRlt : Hid (R < wr.heap.size) := st.blk.lt
            have hW3 : (wr.setCell ⟨R, j, none⟩ (.slice (some ⟨w.heap.size, 0, none⟩) n n)).heap.size = wr.heap.size := by simp [World.setCell]
            clear st hsl hvj hv hv0 pi hwm hi
            generalize hlq : (stp s i).length = li at *
            generalize hpq : (prs (stp s i)).length = lp at *
            have hli' : (li : Int) ≤ 2000 := by omega
            go_wp2_with fail
            refine K1.mono ?_
            rintro e W4 ⟨Rp, rfl, hpv, hRp, hb4⟩
            have hsl4 := hsl1.later hb4
            have st4 := st1.later hb4
            have K2 : Calls Try.prog 34 #[.slice (some ⟨w.heap.size, 0, none⟩) n n, .slice (some ⟨Rp, 0, none⟩) lp lp, .func (.func 33) #[] #[]] W4 fun e w' => ∃ v, e = .returned v ∧ w'.ownsRow W4.heap.size 60 2 v (stp s j).length (cp (stp s j)) ∧ Below W4.heap.size W4 w' := by
              obtain ⟨g, c, e1, e2, _⟩ := hsl4
              simp only [Value.slice.injEq, Option.some.injEq, Addr.mk.injEq] at e1
              obtain ⟨⟨h1, _⟩, _⟩ := e1
              rw [← h1] at e2
              rw [HSJ.out]
              exact merge_any W4 s (prs (stp s i)) w.heap.size 0 n Rp 0 lp n lp e2 hpv.at HLS.out hpq (by omega) (Nat.le_refl _) (Nat.le_refl _)
            clear K1 hpv hsl1 st1
            go_wp2_with fail
            refine K2.mono ?_
            rintro e W5 ⟨v5, rfl, hown5, hb5⟩
            have st5 := st4.later hb5
            have hsl5 := hsl4.later hb5
            have c5 := st5.blk.cell hv1
            have f5 := st5.blk.frozen j
            have HR4 : Hid (R < W4.heap.size) := st4.blk.lt
            have st6 := st5.set j (Nat.le_refl _) v5
            have hv6 : ((vs.set j (.slice (some ⟨w.heap.size, 0, none⟩) n n)).set j v5)[j]? = some v5 := by rw [List.getElem?_set_self (by rw [List.length_set]; exact hjl)]
            have hs6 : SlP W5 w.heap.size R v5 (stp s j) := by
              obtain ⟨g, c, h | h⟩ := PAt.own hown5
              · obtain ⟨h1, h2, h3, h4⟩ := h
                have := st4.bel.size
                have := HR4.out
                exact ⟨g, c, h1, h2, by omega, by omega, h4⟩
              · exfalso
                have h1 := h.2
                rw [HSJ.out, mrg_len, HLS.out] at h1
                omega
            have HST : Hid ((∃ vs, StA w (W5.setCell ⟨R, j, none⟩ v5) R s vs limit (j + 1)) ∧ SlP (W5.setCell ⟨R, j, none⟩ v5) w.heap.size R (.slice (some ⟨w.heap.size, 0, none⟩) n n) s) := ⟨⟨_, st6.more _ hv6 (hs6.set j v5)⟩, hsl5.set j v5⟩
            obtain ⟨ad5, cp5, rfl⟩ := own_sl hown5
            clear K2 hsl4 st4 st5 hsl5 st6 hv6 hs6 hown5 hb4 hb5
            go_wp2_with fail
            go_roundw
            case rel => exact ⟨j + 1, by omega, by go_num, HST⟩
            case measure => simp [intOf]; omega
        · have hge : (limit : Int) ≤ (j : Int) := by omega
          have HE : Hid (StA w wr R s vs limit limit) := by show StA _ _ _ _ _ _ _; have : j = limit := by omega
                                                            rw [this] at st; exact st
          clear st hsl
          go_wp2_with fail
          exact QOK R vs wr HE
end Go.Proofs.Ytfcjnpbnejaolaa
