/-
  dict: Make.
-/
import Derived.Test.YtlajjkpcgokinaaDkL
namespace Go.Proofs.Ytlajjkpcgokinaa
set_option linter.unusedVariables false
set_option linter.unusedSimpArgs false
open Go.ChangeShapes Go.WideShapes Go.ChangeAt Go.RowKit Go.Sort Go.Deep
open Go.Maps (Keyed)
open Go.ChangeMaps Go.MapKept

theorem Kx.below {m pd B N : Nat} {w w' : World} (h : Kx m pd B w w') (hN : N ≤ B) (h1 : N ≤ m) (h2 : N ≤ pd) : Below N w w' := ⟨h.os, h.tape, h.output, h.size, fun k hk => h.block k (by omega) (by omega) (by omega)⟩
theorem MkI.only {w w' : World} {pp pd m B R : Nat} {l : List Dat} (h : MkI w pp pd m B l) (ho : Only R w w') (hR : R < B) (h1 : R ≠ pp) (h2 : R ≠ pd) (h3 : R ≠ m) : MkI w' pp pd m B l := by
  obtain ⟨v, hv1, hv2⟩ := h.dic
  obtain ⟨D, ⟨es, cl, e1, e2⟩, hD2⟩ := h.map
  exact ⟨ho.at h.fp (by omega), ⟨v, ho.at hv1 (by omega), own_onlyK hv2 ho (fun g hg => by have := (hv2.lt g hg).1; omega)⟩, ⟨D, ⟨es, cl, ho.at e1 (by omega), e2⟩, hD2⟩, h.ppB, h.pdB, h.mB, h.n1, h.n2, h.n3, by rw [← ho.size]; exact h.size⟩
/-- numbers as a whole block -/
def NVec (W : World) (R : Nat) (l : List Nat) : Prop := W.heap[R]? = some (.cells (l.map fun n : Nat => Value.int .i64 (n : Int)).toArray 3 (0, 0))
theorem NVec.set {W : World} {R : Nat} {l : List Nat} (h : NVec W R l) (i n : Nat) : NVec (W.setCell ⟨R, i, none⟩ (.int .i64 (n : Nat))) R (l.set i n) := by
  unfold NVec at *
  rw [set_block h, List.map_set]
  simp
theorem NVec.lt {W : World} {R : Nat} {l : List Nat} (h : NVec W R l) : R < W.heap.size := lt_of_heap h
theorem NVec.src {W : World} {R : Nat} {l : List Nat} (h : NVec W R l) : SrcI W (some ⟨R, 0, none⟩) l.length l.length (l.map fun n : Nat => (n : Int)) := by
  refine ⟨by simp, .inr ⟨_, rfl, fun j u hj => ?_⟩⟩
  have e : (⟨R, 0, none⟩ : Addr).add j = ⟨R, 0 + j, none⟩ := by unfold Addr.add; split <;> simp_all
  rw [e, Nat.zero_add]
  exact cell_of_block h (by simpa using hj)
theorem infoIK : (Try.prog.info? 3).map (fun i => (i.zero, i.size, i.bytes)) = some (some (.int .i64 0), 1, 8) := by kernel_rfl
theorem own_whole1 {W : World} {B e g n : Nat} {xs : List Value} (h : W.ownsRow B e 1 (.slice (some ⟨g, 0, none⟩) n n) n xs) : W.heap[g]? = some (.cells xs.toArray e (0, 0)) := by
  rcases h.2 with ⟨h1, _⟩ | ⟨g', cap, cur, h1, _, h2, h3, h4, h5, h6⟩
  · cases h1
  · cases h1
    have : cur.toList = xs := by rw [← h6, List.take_of_length_le (by simp [h5])]
    rw [h2, ← this]
theorem wpList_makeN (w : World) {ops : Array Oper} {rest : List Oper} {o : Oper} {a : Act} {Q : Exit → Act → World → Prop}
    (hg : o.guard = none) (l c : Operand) (hop : o.op = Op.makeSlice 23 l c) (m : Nat) (hl : a.eval l = .int .i64 (m : Int)) (hc : a.eval c = .int .i64 (m : Int)) (b2 : m ≤ 1048576)
    (hK : ∀ w', NVec w' w.heap.size (List.replicate m 0) → Below w.heap.size w w' → wpList Try.prog ops Q rest (a.put o.dst (.slice (some ⟨w.heap.size, 0, none⟩) m m)) w') :
    wpList Try.prog ops Q (o :: rest) a w := by
  obtain ⟨i0, hi, hz0, hz1, hz2⟩ := info_parts infoIK
  refine wpList_make_full _ hg l c 23 hop w.heap.size 3 i0 (.int .i64 0) 1 Try.underlying23 hi hz0 hz1 _ _ _ _ m hl hc rfl rfl (by rw [hz2]; omega) (by unfold maxLen; omega) (Nat.le_refl _) ?_
  intro w1 r1 r2
  have hv := own_whole1 r1
  rw [made_zero] at hv
  refine hK _ ?_ ((Below.refl _ w).grown r2 (Nat.le_refl _) (fun _ e => by cases e))
  unfold NVec
  rw [hv]
  simp

/-- the first numbers, and room for the others -/
def numK (xs : List Dat) (k : Nat) : List Nat := (numsL xs).take k ++ List.replicate (xs.length - k) 0
theorem nums_len (xs : List Dat) : (numsL xs).length = xs.length := by simp [numsL]
theorem numK_zero (xs : List Dat) : numK xs 0 = List.replicate xs.length 0 := by simp [numK]
theorem numK_end (xs : List Dat) : numK xs xs.length = numsL xs := by simp [numK, ← nums_len xs]
theorem numK_succ {xs : List Dat} {k : Nat} {d : Dat} (hd : xs[k]? = some d) : (numK xs k).set k (ix (dictL xs) d) = numK xs (k + 1) := by
  obtain ⟨hk, hd2⟩ := List.getElem?_eq_some_iff.1 hd
  unfold numK
  have hlk : ((numsL xs).take k).length = k := by rw [List.length_take, nums_len]; omega
  rw [List.set_append_right _ _ (by omega), hlk, Nat.sub_self, show xs.length - k = (xs.length - (k + 1)) + 1 from by omega, List.replicate_succ, List.set_cons_zero]
  conv => rhs; rw [List.take_succ_eq_append_getElem (by rw [nums_len]; exact hk)]
  rw [List.append_assoc]
  congr 1
  simp [numsL, hd2]

set_option maxRecDepth 100000 in
set_option maxHeartbeats 8000000 in
theorem make_any (xa : Option Addr) (L xc : Nat) (xs : List Dat) (w : World) (hX : Data w xa L xc xs) (hL : L ≤ 200) :
    Calls Try.prog 7 #[.slice xa L xc] w fun e w' => ∃ v R, e = .returned (.tuple #[v, .slice (some ⟨R, 0, none⟩) L L]) ∧ w'.ownsRow w.heap.size 28 3 v (dictL xs).length (dcs (dictL xs)) ∧ NVec w' R (numsL xs) ∧ w.heap.size ≤ R ∧ Below w.heap.size w w' := by
  have hxl := hX.1
  have hL' : (L : Int) ≤ 200 := by omega
  have hmm := @run_makeMap Try.prog
  have HXL : Hid (xs.length = L) := hxl
  clear hxl
  go_enter Try.func7, Try.ntmps7
  obtain ⟨W3, hW3⟩ : ∃ W3, W3 = ((w.alloc (.cells #[.slice none 0 0] 22)).alloc (.map #[] 0)).alloc (.cells #[.map (some (w.heap.size + 1))] 47) := ⟨_, rfl⟩
  have h3s : W3.heap.size = w.heap.size + 3 := by rw [hW3]; simp
  have h3b : Below w.heap.size w W3 := by rw [hW3]; exact ((alloc_below w _).alloc (by simp) _).alloc (by simp; omega) _
  have h3d : W3.heap[w.heap.size]? = some (.cells #[.slice none 0 0] 22 (0, 0)) := by rw [hW3]; exact below_at (alloc_below _ _) (below_at (alloc_below _ _) (heap_new w _))
  have h3m : W3.heap[w.heap.size + 1]? = some (.map #[] 0) := by rw [hW3]; exact below_at (alloc_below _ _) (heap2_new w _ _)
  have h3p : W3.heap[w.heap.size + 1 + 1]? = some (.cells #[.map (some (w.heap.size + 1))] 47 (0, 0)) := by
    rw [hW3]
    have h := heap_new ((w.alloc (.cells #[.slice none 0 0] 22)).alloc (.map #[] 0)) (.cells #[.map (some (w.heap.size + 1))] 47 (0, 0))
    have e : ((w.alloc (.cells #[.slice none 0 0] 22)).alloc (.map #[] 0)).heap.size = w.heap.size + 1 + 1 := by simp
    rw [e] at h
    exact h
  go_wp2_with (at_make; rw [← hW3]; go_loud (refine wpList_makeN _ rfl _ _ rfl L rfl rfl (by omega) ?_); intro w1 hv1 hb1; rw [h3s] at hv1 ⊢)
  have I1 : MkI w1 (w.heap.size + 1 + 1) w.heap.size (w.heap.size + 1) (w.heap.size + 4) [] := by
    have hl := hv1.lt
    exact ⟨below_at hb1 h3p, ⟨_, below_at hb1 h3d, World.ownsRow_nil _ _ _ _⟩, ⟨.map [], ⟨#[], 0, below_at hb1 h3m, ⟨by simp, stamped_empty 0, by simp⟩, Nat.le_refl _, rfl⟩, inv_nil⟩, by omega, by omega, by omega, by omega, by omega, by omega, by omega⟩
  have hb1w := h3b.trans (hb1.mono h3b.size)
  clear h3d h3m h3p hb1 h3b hW3 hmm
  go_loopw [17] (fun k wr => ∃ j : Nat, j ≤ L ∧ k = .int .i64 (j : Int) ∧ Hid (MkI wr (w.heap.size + 1 + 1) w.heap.size (w.heap.size + 1) (w.heap.size + 4) (dictL (xs.take j)) ∧ NVec wr (w.heap.size + 3) (numK xs j)) ∧ Below w.heap.size w wr) (fun k _ => L - (intOf k).toNat)
  case atStart => exact ⟨0, Nat.zero_le _, rfl, ⟨I1, by rw [numK_zero, HXL.out]; exact hv1⟩, hb1w⟩
  case round =>
    clear hv1 I1 hb1w
    obtain ⟨j, hj, rfl, HI, bel⟩ := hrel
    by_cases hlt : j < L
    · have hlt' : (j : Int) < (L : Int) := by omega
      obtain ⟨d, g, o, hd, wd, rfl, hg, c0, c1, c2⟩ := data_at (hX.later bel) hlt
      have hll : (dictL (xs.take j)).length ≤ 200 := by have := dictL_len (xs.take j); rw [List.length_take] at this; omega
      have PC := place_any (wr.alloc (.cells #[.int .i64 d.k, .int .i64 d.n, .string d.s] 28)) (w.heap.size + 1 + 1) w.heap.size (w.heap.size + 1) (w.heap.size + 4) (dictL (xs.take j)) (HI.out.1.later (alloc_below _ _)) d wd hll
      rw [ix_take hd, ← dictL_snoc hd] at PC
      have HN : Hid ((numK xs j).set j (ix (dictL xs) d) = numK xs (j + 1)) := numK_succ hd
      have hN0 := HI.out.2
      have hnl : j < (numK xs j).length := by unfold numK; rw [List.length_append, List.length_take, List.length_replicate, nums_len, HXL.out]; omega
      have hbA : Below w.heap.size w (wr.alloc (.cells #[.int .i64 d.k, .int .i64 d.n, .string d.s] 28)) := bel.alloc bel.size _
      have hRa := below_at (alloc_below wr (.cells #[.int .i64 d.k, .int .i64 d.n, .string d.s] 28)) hN0
      generalize ix (dictL xs) d = q at *
      clear hd wd hll HI hN0
      go_wp2_with fail
      refine PC.mono ?_
      rintro e w5 ⟨rfl, I5, K5⟩
      have hn5 : NVec w5 (w.heap.size + 3) (numK xs j) := (K5.block _ (by omega) (by omega) (by omega)).trans hRa
      have hz : (numK xs j)[j]? = some ((numK xs j)[j]'hnl) := List.getElem?_eq_getElem hnl
      obtain ⟨u0, e0⟩ : ∃ u, w5.cell? ⟨w.heap.size + 3, j, none⟩ = some u := ⟨_, cell_of_block hn5 (Array.getElem?_eq_getElem (by simpa using hnl))⟩
      have f0 : w5.frozen? ⟨w.heap.size + 3, j, none⟩ = false := frozen_of_block hn5
      have hb5 := hbA.trans (K5.below (N := w.heap.size) (by omega) (by omega) (by omega))
      have HNX : Hid (MkI (w5.setCell ⟨w.heap.size + 3, j, none⟩ (.int .i64 (q : Nat))) (w.heap.size + 1 + 1) w.heap.size (w.heap.size + 1) (w.heap.size + 4) (dictL (xs.take (j + 1))) ∧ NVec (w5.setCell ⟨w.heap.size + 3, j, none⟩ (.int .i64 (q : Nat))) (w.heap.size + 3) (numK xs (j + 1))) := by
        refine ⟨I5.only (only_setCell _ _ _ _) (by omega) (by omega) (by omega) (by omega), ?_⟩
        rw [← HN.out]
        exact hn5.set j q
      have hbN := hb5.setCell (p := ⟨w.heap.size + 3, j, none⟩) (show w.heap.size ≤ w.heap.size + 3 by omega) (.int .i64 (q : Nat))
      clear K5 I5 hn5 hz hRa PC hnl
      go_wp2_with fail
      go_roundw
      case rel => exact ⟨j + 1, by omega, by go_num, HNX.out, hbN⟩
      case measure => simp [intOf]; omega
    · have hge : (L : Int) ≤ (j : Int) := by omega
      have hjl : xs.take j = xs := List.take_of_length_le (by rw [HXL.out]; omega)
      have hjl2 : j = xs.length := by rw [HXL.out]; omega
      obtain ⟨I, hN⟩ := HI.out
      rw [hjl] at I
      rw [hjl2, numK_end] at hN
      obtain ⟨v, hv1, hv2⟩ := I.dic
      have HR : Hid (wr.ownsRow w.heap.size 28 3 v (dictL xs).length (dcs (dictL xs)) ∧ NVec wr (w.heap.size + 3) (numsL xs)) := ⟨row_baseE hv2 (by omega), hN⟩
      obtain ⟨va, vc, rfl⟩ := own_sl hv2
      obtain ⟨cv, _⟩ := blk1 hv1
      clear hjl hjl2 I hN hv1 hv2 HI hj
      go_wp2_with fail
      go_ret2
      exact ⟨_, _, rfl, HR.out.1, HR.out.2, by omega, bel⟩
end Go.Proofs.Ytlajjkpcgokinaa
