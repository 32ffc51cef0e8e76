/-
  huffman.Codes: each symbol's code.
-/
import Derived.Test.YtfcjnpbnejaolaaIter
import Derived.Test.YtfcjnpbnejaolaaVec
namespace Go.Proofs.Ytfcjnpbnejaolaa
set_option linter.unusedVariables false
set_option linter.unusedSimpArgs false
open Go.RowKit Go.Shelf

attribute [local go_sem] Oper.semAt_some

/-- the codes, symbol by symbol -/
def codL (m : List Nat) : List Nat := (List.range m.length).map fun i => if m.getD i 0 = 0 then 0 else cod m i
theorem codL_len (m : List Nat) : (codL m).length = m.length := by simp [codL]
/-- a row into which codes were laid -/
def rowOf (n : Nat) (ps : List (Nat × Nat)) : List Nat := ps.foldl (fun r p => r.set p.1 p.2) (List.replicate n 0)
theorem rowOf_snoc (n : Nat) (ps : List (Nat × Nat)) (p : Nat × Nat) : rowOf n (ps ++ [p]) = (rowOf n ps).set p.1 p.2 := by simp [rowOf]
theorem rowOf_len (n : Nat) (ps : List (Nat × Nat)) : (rowOf n ps).length = n := by
  have h : ∀ (ps : List (Nat × Nat)) (r : List Nat), (ps.foldl (fun r p => r.set p.1 p.2) r).length = r.length := by
    intro ps
    induction ps with
    | nil => intro r; rfl
    | cons p ps ih => intro r; rw [List.foldl_cons, ih]; simp
  unfold rowOf
  rw [h]
  simp
theorem rowOf_upv (m : List Nat) : ∀ k, k ≤ m.length → rowOf m.length (upv m k) = (List.range m.length).map fun i => if i < k ∧ m.getD i 0 ≠ 0 then cod m i else 0
  | 0, _ => by
    unfold rowOf upv
    apply List.ext_getElem?
    intro j
    by_cases hj : j < m.length <;> simp [hj]
  | k + 1, hk => by
    have ih := rowOf_upv m k (by omega)
    rw [upv]
    by_cases h0 : m.getD k 0 = 0
    · rw [if_pos h0, ih]
      refine List.map_congr_left fun i hi => ?_
      by_cases e : i = k
      · subst e
        rw [if_neg (fun h => h.2 h0), if_neg (fun h => h.2 h0)]
      · by_cases h1 : i < k
        · by_cases h2 : m.getD i 0 = 0
          · rw [if_neg (fun h => h.2 h2), if_neg (fun h => h.2 h2)]
          · rw [if_pos ⟨h1, h2⟩, if_pos ⟨by omega, h2⟩]
        · rw [if_neg (by omega), if_neg (by omega)]
    · rw [if_neg h0, rowOf_snoc, ih]
      apply List.ext_getElem?
      intro j
      rw [List.getElem?_set]
      by_cases hj : j < m.length
      · by_cases e : k = j
        · subst e
          rw [if_pos rfl]
          simp only [List.getElem?_map, List.getElem?_range hj, Option.map_some, List.length_map, List.length_range, if_pos hj]
          rw [if_pos ⟨by omega, h0⟩]
        · rw [if_neg e]
          simp only [List.getElem?_map, List.getElem?_range hj, Option.map_some]
          by_cases h1 : j < k
          · by_cases h2 : m.getD j 0 = 0
            · rw [if_neg (fun h => h.2 h2), if_neg (fun h => h.2 h2)]
            · rw [if_pos ⟨h1, h2⟩, if_pos ⟨by omega, h2⟩]
          · rw [if_neg (by omega), if_neg (by omega)]
      · simp [hj]
        omega
theorem rowOf_end (m : List Nat) : rowOf m.length (upv m m.length) = codL m := by
  rw [rowOf_upv m _ (Nat.le_refl _)]
  refine List.map_congr_left fun i hi => ?_
  have hi' : i < m.length := by simpa using hi
  by_cases h : m.getD i 0 = 0
  · rw [if_neg (fun x => x.2 h), if_pos h]
  · rw [if_pos ⟨hi', h⟩, if_neg h]

set_option maxRecDepth 100000 in
set_option maxHeartbeats 2000000 in
theorem codes_no (w : World) (a : Option Addr) (len cap : Nat) (l : List Int) (hs : Src w a len cap (ci l)) (hlen : len ≤ 17592186044416) (hno : refC l ≠ 0) :
    Calls Try.prog 14 #[.slice a len cap] w fun e w' => e = .returned (.tuple #[.slice none 0 0, .int .i64 (refC l)]) ∧ Below w.heap.size w w' := by
  have K := codesRefusal_any w a len cap l hs hlen
  generalize refC l = q at *
  have h0' : (q == 0) = false := by simpa using hno
  clear hno hs
  refine (callsIn_wide (n := 4)).1 ?_
  refine callsIn_of_wp_marks Try.func14 rfl trivial ?_ rfl
  simp only [Try.ntmps14, List.size_toArray, List.length_cons, List.length_nil, Nat.reduceAdd, Nat.reduceSub, Array.replicate_succ, Array.replicate_zero, List.push_toArray, List.append_toArray, List.nil_append, List.cons_append]
  gi_wp2_with (refine ⟨trivial, ?_⟩; gi_at_call 25; refine (callsIn_wide.2 K).mono ?_; rintro e w1 ⟨rfl, hb1⟩)
  exact ⟨_, by simp [results, Try.f14, go_sem], rfl, hb1⟩

/-- where the loop of Codes stands -/
structure CI (w X : World) (R Bc len : Nat) (ps : List (Nat × Nat)) : Prop where
  row : Vec X R (rowOf len ps)
  box : Boxed X Bc 22 (.slice (some ⟨R, 0, none⟩) len len)
  bel : Below w.heap.size w X
theorem CI.later {w X Y : World} {R Bc len B : Nat} {ps : List (Nat × Nat)} (h : CI w X R Bc len ps) (hb : Below B X Y) (h1 : R < B) (h2 : Bc < B) (h3 : w.heap.size ≤ B) : CI w Y R Bc len ps :=
  ⟨h.row.later hb h1, (hb.block Bc h2).trans h.box, h.bel.trans (hb.mono h3)⟩

set_option maxRecDepth 100000 in
set_option maxHeartbeats 4000000 in
theorem codes_ok (w : World) (a : Option Addr) (len cap : Nat) (m : List Nat) (hs : Src w a len cap (cn m)) (hlen : len ≤ 1000) (h15 : ∀ x ∈ m, x ≤ 15) (hyes : refC (nm m) = 0) :
    Calls Try.prog 14 #[.slice a len cap] w fun e w' => ∃ R, e = .returned (.tuple #[.slice (some ⟨R, 0, none⟩) len len, .int .i64 0]) ∧ Vec w' R (codL m) ∧ w.heap.size ≤ R ∧ Below w.heap.size w w' := by
  have K := codesRefusal_any w a len cap (nm m) hs (by omega)
  rw [hyes] at K
  have hlm : m.length = len := by have := hs.1; rwa [cn_len] at this
  have hlen' : (len : Int) ≤ 1000 := by omega
  clear hyes
  refine (callsIn_wide (n := 4)).1 ?_
  refine callsIn_of_wp_marks Try.func14 rfl trivial ?_ rfl
  simp only [Try.ntmps14, List.size_toArray, List.length_cons, List.length_nil, Nat.reduceAdd, Nat.reduceSub, Array.replicate_succ, Array.replicate_zero, List.push_toArray, List.append_toArray, List.nil_append, List.cons_append]
  gi_wp2_with (first | (refine ⟨trivial, ?_⟩; gi_at_call 25; refine (callsIn_wide.2 K).mono ?_; rintro e w1 ⟨rfl, hb1⟩) | (gi_at_make; refine wpListIn_makeVec _ rfl _ _ rfl len rfl rfl (by omega) ?_; intro w2 hv2 hb2) | (refine ⟨trivial, ?_⟩; gi_at_call 26; refine (callsIn_wide.2 (codesOf_any a len cap _)).mono ?_; rintro e wx ⟨rfl, hwx⟩; subst hwx))
  have hz1 := hb1.size
  have hz2 := hb2.size
  have hR2 := hv2.lt
  have b02 : Below w.heap.size w w2 := hb1.trans (hb2.mono hz1)
  have i0 : CI w ((w2.alloc (.cells #[.slice (some ⟨w1.heap.size, 0, none⟩) len len] 22)).alloc (.cells #[.slice a len cap] 22)) w1.heap.size w2.heap.size len [] := by
    refine ⟨?_, (Boxed.new w2 22 _).alloc _, (b02.alloc (by omega) _).alloc (by simp; omega) _⟩
    exact ((Below.heap_alloc _ _ _ (by simp; omega)).trans (Below.heap_alloc _ _ _ (by omega))).trans hv2
  have hbx : ((w2.alloc (.cells #[.slice (some ⟨w1.heap.size, 0, none⟩) len len] 22)).alloc (.cells #[.slice a len cap] 22)).cell? ⟨w2.heap.size + 1, 0, none⟩ = some (.slice a len cap) := by
    have h := (Boxed.new (w2.alloc (.cells #[.slice (some ⟨w1.heap.size, 0, none⟩) len len] 22)) 22 (.slice a len cap)).cell
    rwa [World.size_alloc] at h
  have e5 : ((w2.alloc (.cells #[.slice (some ⟨w1.heap.size, 0, none⟩) len len] 22)).alloc (.cells #[.slice a len cap] 22)).heap.size = w2.heap.size + 2 := by simp
  generalize (w2.alloc (.cells #[.slice (some ⟨w1.heap.size, 0, none⟩) len len] 22)).alloc (.cells #[.slice a len cap] 22) = W5 at i0 hbx e5 ⊢
  have hgR : 0 < len → ∀ g off, a = some ⟨g, off, none⟩ → g ≠ w1.heap.size := by
    intro h0 g off e
    obtain ⟨g', off', e', hc⟩ := src_atn hs h0
    rw [e] at e'
    cases e'
    have := World.block_lt_of_cell? _ _ hc
    simp only at this
    omega
  have hs5 : Src W5 a len cap (cn m) := hs.later i0.bel
  have HLM : Hid (m.length = len) := hlm
  clear K hv2 hb1 hb2
  generalize w1.heap.size = R at *
  generalize w2.heap.size = Bc at *
  refine range_c (by omega) (gf := 36) (lb := #[.pointer (some ⟨Bc + 1, 0, none⟩)]) rfl (enters_of Try.func36 (by kernel_rfl) rfl)
    (codes_seq 3 (by omega) (Bc + 1) R len cap a m hlm hlen h15 W5 hbx (by omega) hs5 hgR (by omega)) (fun h k => h.trans k) (fun W l o o' _ h1 h2 => Kp.put R W l o o' h1 h2) (fun _ => rfl)
    (fun pre X => CI w X R Bc len (vals pre)) (fun cd pre X => False) (fun s A C h hb => h.later hb (by omega) (by omega) (by omega)) (fun c s A C h hb => h) i0 ?act ?assign ?body ?done ?stop
  case assign =>
    intro l x X K hK
    gi_wp2
    exact hK
  case body =>
    rintro l pre x X us hN
    have k1 := us.box.cell
    have hxl := x.2.1
    have hxl' : ((x.1.1 : Nat) : Int) < (len : Int) := by omega
    have k2 := us.row.cell (j := x.1.1) (by rw [rowOf_len]; exact hxl)
    have f2 := us.row.frozen x.1.1
    have HX : Hid (CI w (X.setCell ⟨R, x.1.1, none⟩ (.int .i64 ((x.1.2 : Nat) : Int))) R Bc len (vals (pre ++ [x]))) := by
      refine ⟨?_, (Below.heap_setCell X ⟨R, x.1.1, none⟩ _ Bc (by simp; omega)).trans us.box, us.bel.setCell (p := ⟨R, x.1.1, none⟩) (by simp; omega) _⟩
      have h := us.row.set x.1.1 x.1.2
      rw [← rowOf_snoc] at h
      simpa [vals] using h
    clear us
    gi_wp2
    exact ⟨KeepsOthers.setCell _ _ _, Kp.set _ _ _ _, HX.out⟩
  case done =>
    rintro D ys X hD hys us hK
    have k1 := us.box.cell
    have hv : Vec X R (codL m) := by
      have h := us.row
      rw [hys, ← HLM.out, rowOf_end] at h
      exact h
    gi_wp2
    refine ⟨by simp, .inl ⟨_, _, rfl, run_takeDeferred hK, ?_⟩⟩
    refine ⟨_, by simp [results, Try.f14, go_sem], R, rfl, ?_, by omega, us.bel.trans (put_below _ _ _ (by omega))⟩
    exact (World.putObj_heap_other (by omega)).trans hv
  case stop =>
    rintro D c pre X hD hp h hK
    exact h.elim
end Go.Proofs.Ytfcjnpbnejaolaa
