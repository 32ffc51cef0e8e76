/-
  dict: the closure that tells a datum's place, and lays it where it is new.
-/
import Derived.Test.YtlajjkpcgokinaaDkK
namespace Go.Proofs.Ytlajjkpcgokinaa
set_option linter.unusedVariables false
set_option linter.unusedSimpArgs false
open Go.ChangeShapes Go.WideShapes Go.ChangeAt Go.RowKit Go.Sort Go.Deep
open Go.Maps (Keyed)

theorem own_onlyK {w w' : World} {B b : Nat} {e : TypeId} {s : Nat} {v : Value} {n : Nat} {xs : List Value} (h : w.ownsRow B e s v n xs) (ho : Only b w w') (hb : ∀ g, v.ownBlock = some g → g ≠ b) : w'.ownsRow B e s v n xs := by
  refine ⟨h.1, ?_⟩
  rcases h.2 with h1 | ⟨g, cap, cur, h1, h2, h3, h4⟩
  · exact .inl h1
  · subst h1
    exact .inr ⟨g, cap, cur, rfl, h2, by rw [ho.block g (hb g rfl)]; exact h3, h4⟩
/-- what stays: all blocks below B but two -/
structure Kx (m pd B : Nat) (w w' : World) : Prop where
  os : w'.os = w.os
  tape : w'.tape = w.tape
  output : w'.output = w.output
  size : w.heap.size ≤ w'.heap.size
  block : ∀ k, k < B → k ≠ m → k ≠ pd → w'.heap[k]? = w.heap[k]?
/-- where the making of a dictionary stands -/
structure MkI (w : World) (pp pd m B : Nat) (l : List Dat) : Prop where
  fp : w.heap[pp]? = some (.cells #[.map (some m)] 47 (0, 0))
  dic : ∃ v, w.heap[pd]? = some (.cells #[v] 22 (0, 0)) ∧ w.ownsRow B 28 3 v l.length (dcs l)
  map : ∃ D : DataW Unit, w.ownsMap Try.prog 28 (plainElem Try.prog 3) m l.length D ∧ Inv l D
  ppB : pp < B
  pdB : pd < B
  mB : m < B
  n1 : pd ≠ m
  n2 : pd ≠ pp
  n3 : pp ≠ m
  size : B ≤ w.heap.size
theorem MkI.later {w w' : World} {pp pd m B : Nat} {l : List Dat} (h : MkI w pp pd m B l) (hb : Below w.heap.size w w') : MkI w' pp pd m B l := by
  obtain ⟨v, hv1, hv2⟩ := h.dic
  obtain ⟨D, hD1, hD2⟩ := h.map
  have hm := hD1.lt
  obtain ⟨es, cl, e1, e2⟩ := hD1
  exact ⟨below_at hb h.fp, ⟨v, below_at hb hv1, own_below hv2 hb⟩, ⟨D, ⟨es, cl, below_at hb e1, e2⟩, hD2⟩, h.ppB, h.pdB, h.mB, h.n1, h.n2, h.n3, Nat.le_trans h.size hb.size⟩

set_option maxRecDepth 100000 in
set_option maxHeartbeats 4000000 in
theorem place_any (w : World) (pp pd m B : Nat) (l : List Dat) (I : MkI w pp pd m B l) (d : Dat) (hd : d.wf) (hl : l.length ≤ 200) :
    Calls Try.prog 15 #[.agg #[.int .i64 d.k, .int .i64 d.n, .string d.s], .pointer (some ⟨pp, 0, none⟩), .pointer (some ⟨pd, 0, none⟩)] w fun e w' => e = .returned (.int .i64 (ix (addD l d) d : Nat)) ∧ MkI w' pp pd m B (addD l d) ∧ Kx m pd B w w' := by
  obtain ⟨i0, hi, hz0, hz1, hz2⟩ := info_parts infoD
  obtain ⟨kl, hkey⟩ := keyD d hd
  have B0 := alloc_below w (.cells #[.int .i64 d.k, .int .i64 d.n, .string d.s] 28 (0, 0))
  have hX := heap_new w (.cells #[.int .i64 d.k, .int .i64 d.n, .string d.s] 28 (0, 0))
  have I0 := I.later B0
  obtain ⟨v, hv1, hv2⟩ := I0.dic
  obtain ⟨D, hD1, hD2⟩ := I0.map
  obtain ⟨hin, hout⟩ := hD2 d hd kl hkey
  obtain ⟨cp, _⟩ := blk1 I0.fp
  obtain ⟨cd, fd⟩ := blk1 hv1
  obtain ⟨⟨cx0, cx1, cx2⟩, _⟩ := blk3 hX
  have hl' : (l.length : Int) ≤ 200 := by omega
  by_cases hmem : d ∈ l
  · obtain ⟨hhas, hatk⟩ := hin hmem
    have HE : Hid (addD l d = l) := by show _ = _; unfold addD; rw [if_pos (any_mem.2 hmem)]
    have HA : Hid (D.atKey kl (.lit (.int .i64 0)) = .lit (.int .i64 (ix l d : Nat))) := hatk
    have HI : Hid (MkI (w.alloc (.cells #[.int .i64 d.k, .int .i64 d.n, .string d.s] 28 (0, 0))) pp pd m B l) := I0
    have HB : Hid (B ≤ w.heap.size) := I.size
    rw [HE.out]
    clear hin hout hmem hatk I I0 hD2
    generalize ix l d = q at *
    go_enter Try.func15, Try.ntmps15
    go_wp2_with (at_lookup; go_loud (refine wpList_lookup_own_ok_int _ rfl _ _ 47 rfl 28 3 .i64 keyedK Try.underlying47 Try.underlying3 (zeroK _) m l.length D rfl hD1 _ kl rfl hkey ?_); intro c hat hwc; obtain rfl : c = (q : Int) := by (have h := hat.symm.trans HA.out; simpa using h))
    go_ret
    exact ⟨rfl, HI.out, ⟨B0.os, B0.tape, B0.output, B0.size, fun k h1 _ _ => B0.block k (Nat.lt_of_lt_of_le h1 HB.out)⟩⟩
  · have hno := hout hmem
    have HE : Hid (addD l d = l ++ [d]) := by show _ = _; unfold addD; rw [if_neg (fun h => hmem (any_mem.1 h))]
    have HX : Hid (ix (l ++ [d]) d = l.length) := ix_new hmem
    have HIV := inv_snoc hD2 hD1.isMap hd hmem hkey
    rw [HE.out, HX.out]
    obtain ⟨da, dc, rfl⟩ := own_sl hv2
    have hpdm := I.n1
    have hppm := I.n3
    have hpdpp := I.n2
    have hBs := I.size
    have hpdB := I.pdB
    have hppB := I.ppB
    have hmB := I.mB
    have hwf : (Lit.int .i64 (l.length : Nat)).wf = true := WalkArith.wf_i64 (by omega)
    have hog : ∀ g, (Value.slice da l.length dc).ownBlock = some g → B ≤ g := fun g hg => (hv2.lt g hg).1
    have hpdl := lt_of_heap hv1
    have HPP := I0.fp
    have hS0 : (w.alloc (.cells #[.int .i64 d.k, .int .i64 d.n, .string d.s] 28 (0, 0))).heap.size = w.heap.size + 1 := by simp
    have HD : Hid (D.put kl (.lit (.int .i64 (l.length : Nat))) = D.put kl (.lit (.int .i64 (l.length : Nat)))) := rfl
    clear hin hout hmem hD2 I I0
    go_enter Try.func15, Try.ntmps15
    go_wp2_with (first | (at_lookup; go_loud (refine wpList_lookup_own_ok_int _ rfl _ _ 47 rfl 28 3 .i64 keyedK Try.underlying47 Try.underlying3 (zeroK _) m l.length D rfl hD1 _ kl rfl hkey ?_); intro c hat hwc; clear hat) | (at_mapUpdate; go_loud (refine wpList_mapUpdate_own _ rfl _ _ _ 47 rfl 28 3 keyedK Try.underlying47 _ m l.length D rfl hD1 (by unfold maxLen; omega) _ _ kl rfl rfl hkey (.lit (.int .i64 (l.length : Nat))) [] (plainElem_int Try.underlying3 hwf) ?_); intro w1 hown1 hgrow1; have x1 := (hgrow1.block pd hpdl (by simp; omega)).trans hv1; have x2 := (hgrow1.block w.heap.size (lt_of_heap hX) (by simp; omega)).trans hX; obtain ⟨c1, f1⟩ := blk1 x1; obtain ⟨⟨c20, c21, c22⟩, _⟩ := blk3 x2; have o1 := hv2.kept hgrow1 (.inr (fun e => by have := hog _ e; omega)); have hs1 := hgrow1.size) | (at_builtin; go_loud (refine wpList_append_own _ rfl (.tmp 20) (.tmp 22) 22 rfl B 28 i0 _ 3 32 Try.underlying22 hi hz0 hz1 hz2 rfl (by decide) (.slice da l.length dc) l.length (dcs l) rfl (o1.alloc _) ⟨w1.heap.size, 0, none⟩ 1 1 [.int .i64 d.k, .int .i64 d.n, .string d.s] rfl rfl (new_news _ _ _ _) (by intro u hu; simp at hu; rcases hu with rfl | rfl | rfl <;> rfl) (by unfold maxLen; omega) (by omega) (by simp; omega) ?_); intro v2 w2 hown2 hgrow2 _; obtain ⟨a2, c2, rfl⟩ := own_sl hown2; have y1 := (hgrow2.block pd (by simp; omega) (fun e => by have := hog _ e.symm; omega)).trans (below_at (alloc_below _ _) x1); obtain ⟨d1, g1⟩ := blk1 y1))
    go_ret
    have Hx := HIV
    have hs2 := hgrow2.size
    simp only [World.size_alloc] at hs2
    have hog2 : ∀ g, (Value.slice a2 (l.length + 1) c2).ownBlock = some g → B ≤ g := fun g hg => (hown2.lt g hg).1
    obtain ⟨z1, z2⟩ := store1 y1 (.slice a2 (l.length + 1) c2)
    have m2 := (hown1.alloc (.cells #[.int .i64 d.k, .int .i64 d.n, .string d.s] 28)).kept hgrow2 (fun e => by have := hog _ e.symm; omega)
    have m3 := m2.setCell (a := ⟨pd, 0, none⟩) (show m ≠ pd by omega) (.slice a2 (l.length + 1) c2)
    refine ⟨rfl, ⟨?_, ⟨_, z1, ?_⟩, ⟨_, by rw [List.length_append]; exact m3, HIV⟩, hppB, hpdB, hmB, hpdm, hpdpp, hppm, ?_⟩, ⟨?_, ?_, ?_, ?_, ?_⟩⟩
    · have q1 := (hgrow1.block pp (lt_of_heap HPP) (by simp; omega)).trans HPP
      have q2 := (hgrow2.block pp (by simp; have := lt_of_heap q1; omega) (fun e => by have := hog _ e.symm; omega)).trans (below_at (alloc_below _ _) q1)
      exact z2.at q2 (by omega)
    · rw [List.length_append, dcs_append]
      exact own_onlyK hown2 z2 (fun g hg => by have := hog2 g hg; omega)
    · rw [← z2.size]; omega
    · rw [z2.os, hgrow2.os, (alloc_below w1 _).os, hgrow1.os, B0.os]
    · rw [z2.tape, hgrow2.tape, (alloc_below w1 _).tape, hgrow1.tape, B0.tape]
    · rw [z2.output, hgrow2.output, (alloc_below w1 _).output, hgrow1.output, B0.output]
    · rw [← z2.size]; omega
    · intro k h1 h2 h3
      rw [z2.block k h3, hgrow2.block k (by simp; omega) (fun e => by have := hog _ e.symm; omega), (alloc_below w1 _).block k (by omega), hgrow1.block k (by omega) (by simp; omega), B0.block k (by omega)]
end Go.Proofs.Ytlajjkpcgokinaa
