/-
  huffman.inOrder, whole.
-/
import Derived.Test.YtfcjnpbnejaolaaLenA
import Derived.Test.YtfcjnpbnejaolaaRng
namespace Go.Proofs.Ytfcjnpbnejaolaa
set_option linter.unusedVariables false
set_option linter.unusedSimpArgs false
open Go.ChangeShapes Go.WideShapes Go.ChangeAt Go.RowKit Go.Sort Go.Shelf

theorem row_base {W : World} {n m : Nat} {e : TypeId} {size : Nat} {v : Value} {k : Nat} {xs : List Value} (h : W.ownsRow n e size v k xs) (hm : m ≤ n) : W.ownsRow m e size v k xs := by
  refine ⟨h.1, ?_⟩
  rcases h.2 with h | ⟨g, cap, cur, h1, h2, h3, h4⟩
  · exact .inl h
  · exact .inr ⟨g, cap, cur, h1, by omega, h3, h4⟩
/-- the sort, at the symbols of a row that the call made -/
theorem sort_any (w : World) (B g blk off n len cap cp : Nat) (c : List Nat) (hc : c.length = len) (l : List Nat) (hl : l.length = n) (hn : 0 < n) (hn1 : n ≤ 1000) (hln : ∀ x ∈ l, x < len) (hlen : len ≤ 1000)
    (hB : w.cell? ⟨B, 0, none⟩ = some (.slice (some ⟨g, off, none⟩) len cap)) (hs : Src w (some ⟨g, off, none⟩) len cap (cn c)) (hb : B ≠ blk) (hg : g ≠ blk)
    (cur : Array Value) (hblk : w.heap[blk]? = some (.cells cur 3 (0, 0))) (htk : cur.toList.take n = cn l) (h1 : n ≤ cp) (h2 : cp ≤ maxLen) (h3 : cur.size = cp * 1) (base : Nat) (hbase : base ≤ blk) :
    Calls Try.prog 28 #[.slice (some ⟨blk, 0, none⟩) n cp, .func (.func 29) #[] #[.pointer (some ⟨B, 0, none⟩)]] w fun e w' => e = .returned (.tuple #[]) ∧
      w'.ownsRow base 3 1 (.slice (some ⟨blk, 0, none⟩) n cp) n (cn (l.mergeSort fun x y => !ordB c y x)) ∧ w.grownBy w' (some blk) := by
  have hlen0 : 0 < len := by
    cases l with
    | nil => simp at hl; omega
    | cons x l => have := hln x (by simp); omega
  have : Inhabited (Sm len) := ⟨⟨0, hlen0⟩⟩
  -- the row as symbols
  let d : List (Sm len) := l.attach.map fun x => ⟨x.1, hln x.1 x.2⟩
  have hd : d.map (fun x => x.1) = l := by simp [d]
  have hdl : d.length = n := by simp [d, hl]
  have hbl : blk < w.heap.size := (Array.getElem?_eq_some_iff.1 hblk).1
  have hHI := holds_of_blockI (ss := nm l) hblk (by rw [nm_len, hl]; exact htk)
  have hH : Holds (encS (n := len)) w blk 0 d.toArray := by
    intro j hj
    have hj' : j < d.length := by simpa using hj
    have hjl : j < l.length := by omega
    obtain ⟨k1, k2⟩ := hHI j (by rw [List.size_toArray, nm_len]; exact hjl)
    refine ⟨?_, k2⟩
    rw [k1]
    rw [getElem!_pos d.toArray j hj, getElem!_pos (nm l).toArray j (by rw [List.size_toArray, nm_len]; exact hjl)]
    simp [encS, d, nm]
  have hcmp : CmpLays1 Try.prog 29 #[.pointer (some ⟨B, 0, none⟩)] (encS (n := len)) (fun x y => cfN c x.1 y.1) blk 0 d.toArray.size w := by
    intro m os dk hdk x y
    have hcell : ∀ (p : Nat × Nat) (v : Value), p.1 ≠ blk → w.cell? ⟨p.1, p.2, none⟩ = some v → (sortWorld (encS (n := len)) w blk 0 m dk os).cell? ⟨p.1, p.2, none⟩ = some v := by
      rintro ⟨b, o⟩ v hne hv
      rw [sortWorld_S]
      have hg := grownBy_sortedI (w := w) (g := blk) (n := m) (os := os) (dk.map fun x => ((x.1 : Nat) : Int))
      have hlt : b < w.heap.size := World.block_lt_of_cell? _ _ hv
      exact (World.cell?_of_block (a := ⟨b, o, none⟩) (hg.block b hlt (fun e => hne (Option.some.inj e)))).trans hv
    obtain ⟨g1, o1, e1, hx⟩ := src_atn hs (j := x.1) x.2
    cases e1
    obtain ⟨g2, o2, e2, hy⟩ := src_atn hs (j := y.1) y.2
    cases e2
    have lx : ((x.1 : Nat) : Int) < (len : Int) := by have := x.2; omega
    have ly : ((y.1 : Nat) : Int) < (len : Int) := by have := y.2; omega
    exact closure_any _ B g off len cap x.1 y.1 _ _ (hcell (B, 0) _ hb hB) (hcell (g, off + x.1) _ hg hx) (hcell (g, off + y.1) _ hg hy) lx ly
  have K := Any.slices_SortFunc_total sortL (encS (n := len)) (fun _ => rfl) (fun x y => cfN c x.1 y.1) (swoS c) 29 #[.pointer (some ⟨B, 0, none⟩)] blk 0 cp d.toArray w (enters_of Try.func29 (by kernel_rfl) rfl) hcmp hH hbl (by rw [List.size_toArray]; omega) (totS c)
  have hsz : d.toArray.size = n := by rw [List.size_toArray]; exact hdl
  rw [hsz] at K
  change Calls Try.prog 28 _ _ _ at K
  refine K.mono ?_
  rintro e w' ⟨rfl, q, os, rfl⟩
  rw [sortWorld_S]
  have e1 : ((d.toArray.toList.mergeSort fun x y => !(ltOf fun (x y : Sm len) => cfN c x.1 y.1) y x).toArray.map fun x => ((x.1 : Nat) : Int)) = (nm (l.mergeSort fun x y => !ordB c y x)).toArray := by
    have h := sort_map c d
    rw [hd] at h
    unfold nm
    rw [← h]
    simp
  rw [e1]
  refine ⟨rfl, ?_, grownBy_sortedI _⟩
  have h := ownsRow_sortedI (w := w) (base := base) (g := blk) (cap := cp) (n := q) (e := 3) (os := os) (cur := cur) (ss := nm l) (ts := nm (l.mergeSort fun x y => !ordB c y x)) (by rw [nm_len, nm_len, List.length_mergeSort]) hbase hblk (by rw [nm_len, hl]; exact h1) h2 h3
  rw [nm_len, hl] at h
  exact h
set_option maxRecDepth 10000 in
set_option maxHeartbeats 2000000 in
theorem inOrder_any (w : World) (a : Option Addr) (len cap : Nat) (c : List Nat) (hs : Src w a len cap (cn c)) (hlen : len ≤ 1000) :
    Calls Try.prog 19 #[.slice a len cap] w fun e w' => ∃ v, e = .returned v ∧ w'.ownsRow w.heap.size 3 1 v (syms c).length (cn (syms c)) ∧ Below w.heap.size w w' := by
  obtain ⟨i0, hi, hz0, hz1, hz2⟩ := info_parts infoI
  have hl : c.length = len := by have := hs.1; rwa [cn_len] at this
  have hlen' : (len : Int) ≤ 1000 := by omega
  have HS : Hid (∀ k, k < len → ∃ g off, a = some ⟨g, off, none⟩ ∧ g < w.heap.size ∧ w.cell? ⟨g, off + k, none⟩ = some (.int .i64 ((c.getD k 0 : Nat) : Int))) := fun k hk => by
    obtain ⟨g, off, e, hc⟩ := src_atn hs hk
    exact ⟨g, off, e, World.block_lt_of_cell? _ _ hc, hc⟩
  have HL : Hid (c.length = len) := hl
  have HSR : Hid (Src w a len cap (cn c)) := hs
  clear hs hl
  go_enter Try.func19, Try.ntmps19
  go_wp2_with fail
  have B1 := alloc_below w (.cells #[.slice a len cap] 22)
  have b1 : Boxed (w.alloc (.cells #[.slice a len cap] 22)) w.heap.size 22 (.slice a len cap) := Boxed.new w _ _
  generalize w.alloc (.cells #[.slice a len cap] 22) = W1 at B1 b1 ⊢
  go_loopw [3, 8] (fun s k wr => ∃ j : Nat, j ≤ len ∧ k = .int .i64 j ∧ wr.ownsRow (w.heap.size + 1) 3 1 s (some1 c j).length (cn (some1 c j)) ∧ Hid (Boxed wr w.heap.size 22 (.slice a len cap) ∧ Below w.heap.size w wr)) (fun _ k _ => len - (intOf k).toNat)
  case atStart => exact ⟨0, Nat.zero_le _, rfl, World.ownsRow_nil W1 _ _ _, b1, B1⟩
  case round =>
    clear B1 b1
    obtain ⟨j, hj, rfl, hown, HB⟩ := hrel
    obtain ⟨ad, cp, rfl⟩ := own_sl hown
    have bel := HB.out.2
    have hlt0 : w.heap.size < wr.heap.size := HB.out.1.lt
    by_cases hlt : j < len
    · have hlt' : (j : Int) < (len : Int) := by omega
      obtain ⟨g, off, rfl, hg, hc⟩ := HS.out j hlt
      have hcx := (bel.cell (p := ⟨g, off + j, none⟩) hg).trans hc
      have HN : Hid (some1 c (j + 1) = if 0 < c.getD j 0 then some1 c j ++ [j] else some1 c j) := some1_succ c j
      have hln := some1_len c j
      generalize c.getD j 0 = x at *
      clear hc
      by_cases hx : 0 < x
      · have hx' : (0 : Int) < (x : Int) := by omega
        have HE : Hid (some1 c (j + 1) = some1 c j ++ [j]) := by show _ = _; rw [HN.out, if_pos hx]
        generalize hq : some1 c j = L at *
        have HO : Hid (wr.ownsRow (w.heap.size + 1) 3 1 (.slice ad L.length cp) L.length (cn L)) := hown
        have HM : Hid (L.length + 1 ≤ maxLen ∧ (L.length + 1) * 8 ≤ 140737488355328) := ⟨by unfold maxLen; omega, by omega⟩
        have HZ : Hid (w.heap.size + 1 ≤ (wr.alloc (.cells #[.int .i64 (j : Int)] 3)).heap.size) := by show _ ≤ _; simp; omega
        have hll : (L.length : Int) ≤ 1000 := by omega
        clear hq hown HN
        go_wp2_with (at_builtin; refine wpList_append_own _ rfl (.tmp 15) (.tmp 17) 22 rfl (w.heap.size + 1) 3 i0 (.int .i64 0) 1 8 Try.underlying22 hi hz0 hz1 hz2 rfl (by decide) _ L.length (cn L) rfl (HO.out.alloc _) ⟨wr.heap.size, 0, none⟩ 1 1 [.int .i64 (j : Int)] rfl rfl (new_news wr [.int .i64 (j : Int)] 3 (0, 0)) (cn_one [j]) HM.out.1 HM.out.2 HZ.out ?_; intro v2 W2 hown2 hg2 _; have HO2 : Hid _ := hown2; have HG2 : Hid (Below (w.heap.size + 1) wr W2) := ((Below.refl _ wr).alloc (by omega) _).grown hg2 HZ.out (fun k hk => (HO.out.lt k hk).1); clear hown2 hg2)
        go_roundw
        case rel => exact ⟨j + 1, by omega, by go_num, by rw [HE.out, cn_append, List.length_append]; exact HO2.out, (HG2.out.block w.heap.size (by omega)).trans HB.out.1, HB.out.2.trans (HG2.out.mono (by omega))⟩
        case measure => simp [intOf]; omega
      · have hx' : (x : Int) ≤ 0 := by omega
        have HE : Hid (some1 c (j + 1) = some1 c j) := by show _ = _; rw [HN.out, if_neg hx]
        go_wp2_with fail
        go_roundw
        case rel => exact ⟨j + 1, by omega, by go_num, by rw [HE.out]; exact hown, HB.out⟩
        case measure => simp [intOf]; omega
    · have hge : (len : Int) ≤ (j : Int) := by omega
      have HJ : Hid (j = len) := by show _ = _; omega
      have HSY : Hid (syms c = (some1 c j).mergeSort fun x y => !ordB c y x) := by show _ = _; unfold syms; rw [HL.out, HJ.out]
      have hln := some1_len c j
      have HLT : Hid (∀ x ∈ some1 c j, x < len) := fun x hx => by have := some1_lt c j x hx; omega
      generalize hq : some1 c j = L at *
      have hSL : (syms c).length = L.length := by rw [HSY.out, List.length_mergeSort]
      by_cases h0 : L = []
      · subst h0
        rcases hown.2 with ⟨e, _⟩ | ⟨g', cap', cur, e, _⟩
        all_goals (
          cases e
          have K : ∀ (p : Option Addr) (cp : Nat) (fv : Value), Calls Try.prog 28 #[.slice p 0 cp, fv] wr fun e w' => e = .returned (.tuple #[]) ∧ w' = wr := fun p cp fv => AnyF.slices_SortFunc_none (P := Try.prog) (ρ := sortL_ren) { sortL with } p cp fv wr
          have HO : Hid _ := hown
          clear hown hq
          go_wp2_with (go_at_call 28; refine (K _ _ _).mono ?_; rintro e wx ⟨rfl, hwx⟩; obtain rfl := hwx.symm)
          go_ret
          refine ⟨_, rfl, ?_, bel⟩
          have e2 : syms c = [] := by rw [HSY.out]; simp
          rw [e2]
          exact (row_base HO.out (by omega)))
      · have hpos : 0 < L.length := List.length_pos_iff.2 h0
        obtain ⟨g0, off0, e0, hg0, _⟩ := HS.out 0 (by
          cases hL : L with
          | nil => exact absurd hL h0
          | cons x l => have := HLT.out x (by rw [hL]; simp); omega)
        subst e0
        rcases hown.2 with ⟨_, e⟩ | ⟨blk, cap', cur, e, hbase, hblk, h1, h2, h3, h4⟩
        · omega
        · cases e
          have hbl : blk < wr.heap.size := (Array.getElem?_eq_some_iff.1 hblk).1
          have K := sort_any wr w.heap.size g0 blk off0 L.length len cap cp c HL.out L rfl hpos (by omega) HLT.out hlen HB.out.1.cell (HSR.out.later bel) (by omega) (by omega) cur hblk (by simpa using h4) h1 h2 h3 w.heap.size (by omega)
          have HB2 : Hid _ := bel
          have hb2 : Hid (w.heap.size ≤ blk) := by show _ ≤ _; omega
          clear hown hq hblk h1 h2 h3 h4 bel
          go_wp2_with (go_at_call 28; refine K.mono ?_; rintro e wx ⟨rfl, ho, hgr⟩)
          go_ret
          refine ⟨_, rfl, ?_, HB2.out.grown hgr (by omega) (fun k hk => by cases hk; exact hb2.out)⟩
          rw [hSL, HSY.out]
          exact ho
end Go.Proofs.Ytfcjnpbnejaolaa
