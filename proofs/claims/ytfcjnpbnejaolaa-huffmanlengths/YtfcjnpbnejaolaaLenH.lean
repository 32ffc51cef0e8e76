/-
  huffman.Lengths: of two symbols or more.
-/
import Derived.Test.YtfcjnpbnejaolaaLenG
namespace Go.Proofs.Ytfcjnpbnejaolaa
set_option linter.unusedVariables false
set_option linter.unusedSimpArgs false
open Go.RowKit Go.Shelf

attribute [local go_sem] Oper.semAt_some

/-- where everything lies -/
structure LC where
  gs : Nat
  B7 : Nat
  R : Nat
  B8 : Nat
  B9 : Nat
  N0 : Nat
  RS : Nat
  N1 : Nat
  n : Nat
  cp : Nat
  len : Nat
  limit : Nat
  sy : List Nat
  s : List Pk
  vs : List Value
/-- where the loop of Lengths stands -/
structure LI (w X : World) (k : LC) (t : Nat) (ls : List Nat) : Prop where
  row : Vec X k.R ls
  b7 : Boxed X k.B7 22 (.slice (some ⟨k.gs, 0, none⟩) k.n k.cp)
  b8 : Boxed X k.B8 22 (.slice (some ⟨k.R, 0, none⟩) k.len k.len)
  b9 : Boxed X k.B9 3 (.int .i64 (t : Int))
  sy : Src X (some ⟨k.gs, 0, none⟩) k.n k.cp (cn k.sy)
  sv : SVec X k.RS k.vs
  at_ : ∀ j, j < k.limit → ∃ g c, k.vs[j]? = some (.slice (some ⟨g, 0, none⟩) (stp k.s j).length c) ∧ PAt X g 0 (stp k.s j) ∧ k.N0 ≤ g ∧ g < k.N1 ∧ g ≠ k.RS ∧ (stp k.s j).length ≤ c
  bel : Below w.heap.size w X
/-- the blocks one behind the other -/
structure LO (w : World) (k : LC) : Prop where
  o1 : w.heap.size ≤ k.gs
  o2 : k.gs < k.B7
  o3 : k.B7 < k.R
  o4 : k.R < k.B8
  o5 : k.B8 < k.B9
  o6 : k.B9 < k.N0
  o7 : k.N0 ≤ k.RS
  o8 : k.RS < k.N1
theorem PAt.keep {X Y : World} {g off : Nat} {l : List Pk} (h : PAt X g off l) (hg : Y.heap[g]? = X.heap[g]?) : PAt Y g off l := fun i p hi => by
  have := h i p hi
  exact ⟨(World.cell?_of_block (a := ⟨g, off + i * 2, none⟩) hg).trans this.1, (World.cell?_of_block (a := ⟨g, off + i * 2 + 1, none⟩) hg).trans this.2⟩
theorem Src.keep {X Y : World} {g off m c : Nat} {news : List Value} (h : Src X (some ⟨g, off, none⟩) m c news) (hg : Y.heap[g]? = X.heap[g]?) : Src Y (some ⟨g, off, none⟩) m c news := by
  refine ⟨h.1, ?_⟩
  rcases h.2 with ⟨e, _⟩ | ⟨p, e, h2⟩
  · cases e
  · cases e
    refine .inr ⟨_, rfl, fun j u hj => ?_⟩
    have ea : (⟨g, off, none⟩ : Addr).add j = ⟨g, off + j, none⟩ := by unfold Addr.add; split <;> simp_all
    have := h2 j u hj
    rw [ea] at this ⊢
    exact (World.cell?_of_block (a := ⟨g, off + j, none⟩) hg).trans this
theorem LI.move {w X Y : World} {k : LC} {t t' : Nat} {ls ls' : List Nat} (h : LI w X k t ls) (o : LO w k) (hk : ∀ b, b < k.N1 → b ≠ k.R → b ≠ k.B9 → Y.heap[b]? = X.heap[b]?) (hr : Vec Y k.R ls') (h9 : Boxed Y k.B9 3 (.int .i64 (t' : Int))) (hb : Below w.heap.size w Y) : LI w Y k t' ls' := by
  obtain ⟨o1, o2, o3, o4, o5, o6, o7, o8⟩ := o
  refine ⟨hr, (hk _ (by omega) (by omega) (by omega)).trans h.b7, (hk _ (by omega) (by omega) (by omega)).trans h.b8, h9, h.sy.keep (hk _ (by omega) (by omega) (by omega)), (hk _ (by omega) (by omega) (by omega)).trans h.sv, fun j hj => ?_, hb⟩
  obtain ⟨g, c, q1, q2, q3, q4, q5, q6⟩ := h.at_ j hj
  exact ⟨g, c, q1, q2.keep (hk _ (by omega) (by omega) (by omega)), q3, q4, q5, q6⟩
theorem LI.later {w X Y : World} {k : LC} {t : Nat} {ls : List Nat} (h : LI w X k t ls) (o : LO w k) (hb : Below k.N1 X Y) : LI w Y k t ls := by
  have o' := o
  obtain ⟨o1, o2, o3, o4, o5, o6, o7, o8⟩ := o'
  exact h.move o (fun b hlt _ _ => hb.block b hlt) (h.row.later hb (by omega)) ((hb.block _ (by omega)).trans h.b9) (h.bel.trans (hb.mono (by omega)))

set_option maxRecDepth 100000 in
set_option maxHeartbeats 8000000 in
theorem lengths_main (w : World) (a : Option Addr) (len cap : Nat) (c : List Nat) (L : Nat) (hs : Src w a len cap (cn c)) (hlen : len ≤ 1000) (h1 : 1 ≤ L) (h2 : L ≤ 15) (hyes : refu 2147483647 (nm c) = 0) (hf : 2 ≤ (syms c).length) (hful : (syms c).length ≤ 2 ^ L) (hcb : ∀ x, c.getD x 0 ≤ 2147483647) :
    Calls Try.prog 7 #[.slice a len cap, .int .i64 L] w fun e w' => ∃ R, e = .returned (.tuple #[.slice (some ⟨R, 0, none⟩) len len, .int .i64 0]) ∧ Vec w' R (back (sgl c (syms c)) (syms c) L (2 * (syms c).length - 2) (List.replicate len 0)) ∧ w.heap.size ≤ R ∧ Below w.heap.size w w' := by
  have K := refusal_any w a len cap (nm c) 2147483647 hs (by omega)
  rw [hyes] at K
  have K2 := inOrder_any w a len cap c hs hlen
  have h1' : (1 : Int) ≤ (L : Int) := by omega
  have h2' : (L : Int) ≤ 15 := by omega
  have hl : c.length = len := by have := hs.1; rwa [cn_len] at this
  have HSY : Hid (∀ x ∈ syms c, x < len) := fun x hx => by have := syms_lt c x hx; omega
  have hn1 : (syms c).length ≤ 1000 := by have := syms_len c; have := some1_len c c.length; omega
  have HFUL : Hid ((syms c).length ≤ 2 ^ L) := hful
  have HNQ : Hid _ := trn_end (sgl c (syms c)) (syms c) L (List.replicate len 0)
  have H0 : Hid (cntP (sgl c (syms c)) = 0 ∧ (sgl c (syms c)).length = (syms c).length) := ⟨cntP_sgl _ _, sgl_len _ _⟩
  have HTB : Hid _ := trn_bound (sgl c (syms c)) (syms c) L len hn1
  generalize syms c = sy at *
  obtain ⟨n, hq⟩ : ∃ n, n = sy.length := ⟨_, rfl⟩
  rw [← hq] at K2 hf hful hn1
  have m1 := shl_wrap L h2
  generalize hp2 : 2 ^ L = p at m1 hful
  have hf' : ¬ (p : Int) < (n : Int) := by omega
  have hf2 : ¬ (n : Int) < 2 := by omega
  have hn1' : (n : Int) ≤ 1000 := by omega
  have hlen' : (len : Int) ≤ 1000 := by omega
  obtain ⟨t0, ht0⟩ : ∃ t0, t0 = 2 * n - 2 := ⟨_, rfl⟩
  have ht0' : 2 * (n : Int) - 2 = (t0 : Int) := by omega
  have HT0 : Hid (t0 = 2 * n - 2) := ht0
  have HQ : Hid (n = sy.length) := hq
  have HS : Hid (Src w a len cap (cn c)) := hs
  clear hyes hs hl ht0 hq hp2 hful
  refine (callsIn_wide (n := 4)).1 ?_
  refine callsIn_of_wp_marks Try.func7 rfl trivial ?_ rfl
  simp only [Try.ntmps7, List.size_toArray, List.length_cons, List.length_nil, Nat.reduceAdd, Nat.reduceSub, Array.replicate_succ, Array.replicate_zero, List.push_toArray, List.append_toArray, List.nil_append, List.cons_append]
  gi_wp2_with (first | (refine ⟨trivial, ?_⟩; gi_at_call 18; refine (callsIn_wide.2 K).mono ?_; rintro e wx ⟨rfl, hwx⟩; obtain rfl := hwx.symm) | (refine ⟨trivial, ?_⟩; gi_at_call 19; refine (callsIn_wide.2 K2).mono ?_; rintro e w1 ⟨v, rfl, hown, hb⟩; obtain ⟨gs, cp, rfl⟩ := own_some hown (by omega)))
  gi_big_quiet_th (fail)
  simp only [m1]
  have hz := hb.size
  have hncp : n ≤ cp := by
    rcases hown.2 with ⟨e, _⟩ | ⟨g', cap', cur, e, _, _, h, _⟩
    · cases e
    · cases e; exact h
  have hgs := hown.lt gs rfl
  have B1 : Below w.heap.size w ((w1.alloc (.cells #[.slice (some ⟨gs, 0, none⟩) n cp] 22)).drewN nq) := by
    have B := hb.alloc hz (.cells #[.slice (some ⟨gs, 0, none⟩) n cp] 22)
    exact ⟨B.os, B.tape, B.output, B.size, B.block⟩
  have hs1 : Src ((w1.alloc (.cells #[.slice (some ⟨gs, 0, none⟩) n cp] 22)).drewN nq) (some ⟨gs, 0, none⟩) n cp (cn sy) := by
    have h := (src_own hown).2.later (alloc_below w1 (.cells #[.slice (some ⟨gs, 0, none⟩) n cp] 22))
    exact h
  have b7 : Boxed ((w1.alloc (.cells #[.slice (some ⟨gs, 0, none⟩) n cp] 22)).drewN nq) w1.heap.size 22 (.slice (some ⟨gs, 0, none⟩) n cp) := Boxed.new w1 22 _
  have e2 : ((w1.alloc (.cells #[.slice (some ⟨gs, 0, none⟩) n cp] 22)).drewN nq).heap.size = w1.heap.size + 1 := by simp [World.drewN]
  generalize (w1.alloc (.cells #[.slice (some ⟨gs, 0, none⟩) n cp] 22)).drewN nq = W2 at *
  have k7 := b7.cell
  clear hown hb K K2 m1
  gi_wp2_with (gi_at_make; refine wpListIn_makeVec _ rfl _ _ rfl len rfl rfl (by omega) ?_; intro w3 hv3 hb3; have k73 := (hb3.cell (p := ⟨w1.heap.size, 0, none⟩) (show w1.heap.size < W2.heap.size by omega)).trans k7; have hz3 := hb3.size; have hR3 := hv3.lt; have hl73 : w1.heap.size < w3.heap.size := (by omega); have hl74 : w1.heap.size < w3.heap.size + 1 := (by omega))
  rw [e2] at hv3 hR3 hz3
  have b03 : Below w.heap.size w w3 := B1.trans (hb3.mono (by omega))
  have B5 := (b03.alloc (o := .cells #[.slice (some ⟨w1.heap.size + 1, 0, none⟩) len len] 22) (by omega)).alloc (o := .cells #[.int .i64 (t0 : Int)] 3) (by simp; omega)
  have A5 := ((Below.refl w3.heap.size w3).alloc (o := .cells #[.slice (some ⟨w1.heap.size + 1, 0, none⟩) len len] 22) (Nat.le_refl _)).alloc (o := .cells #[.int .i64 (t0 : Int)] 3) (by simp)
  have b85 : Boxed ((w3.alloc (.cells #[.slice (some ⟨w1.heap.size + 1, 0, none⟩) len len] 22)).alloc (.cells #[.int .i64 (t0 : Int)] 3)) w3.heap.size 22 (.slice (some ⟨w1.heap.size + 1, 0, none⟩) len len) := (Boxed.new w3 22 _).alloc _
  have b95 : Boxed ((w3.alloc (.cells #[.slice (some ⟨w1.heap.size + 1, 0, none⟩) len len] 22)).alloc (.cells #[.int .i64 (t0 : Int)] 3)) (w3.heap.size + 1) 3 (.int .i64 (t0 : Int)) := by
    have h := Boxed.new (w3.alloc (.cells #[.slice (some ⟨w1.heap.size + 1, 0, none⟩) len len] 22)) 3 (.int .i64 (t0 : Int))
    rwa [World.size_alloc] at h
  have e5 : ((w3.alloc (.cells #[.slice (some ⟨w1.heap.size + 1, 0, none⟩) len len] 22)).alloc (.cells #[.int .i64 (t0 : Int)] 3)).heap.size = w3.heap.size + 2 := by simp
  generalize (w3.alloc (.cells #[.slice (some ⟨w1.heap.size + 1, 0, none⟩) len len] 22)).alloc (.cells #[.int .i64 (t0 : Int)] 3) = W5 at *
  have hv5 : Vec W5 (w1.heap.size + 1) (List.replicate len 0) := hv3.later A5 (by omega)
  have b75 : Boxed W5 w1.heap.size 22 (.slice (some ⟨gs, 0, none⟩) n cp) := (A5.block _ (by omega)).trans ((hb3.block _ (by omega)).trans b7)
  have hs5 : Src W5 (some ⟨gs, 0, none⟩) n cp (cn sy) := (hs1.later hb3).later A5
  have K3 := packSteps_any W5 a len cap c gs 0 n cp sy L (HS.out.later B5) hlen hcb hs5 HSY.out hn1 (by omega) h2
  refine ⟨trivial, (callsIn_wide.2 K3).mono ?_⟩
  rintro e W6 ⟨RS, vs, rfl, st⟩
  clear K3
  gi_wp2_with (refine ⟨trivial, ?_⟩; gi_at_call 21; refine (callsIn_wide.2 (backward_any _ _ _ _ _ rfl)).mono ?_; rintro e wx ⟨rfl, hwx⟩; subst hwx)
  have hz6 := st.bel.size
  have hRS := st.blk.lt
  have hRSl := st.low
  have e7 : (W6.alloc (.cells #[.slice (some ⟨RS, 0, none⟩) L L] 45)).heap.size = W6.heap.size + 1 := by simp
  have A7 := alloc_below W6 (.cells #[.slice (some ⟨RS, 0, none⟩) L L] 45)
  have bBs : Boxed (W6.alloc (.cells #[.slice (some ⟨RS, 0, none⟩) L L] 45)) W6.heap.size 45 (.slice (some ⟨RS, 0, none⟩) L L) := Boxed.new W6 _ _
  have A57 : Below W5.heap.size W5 (W6.alloc (.cells #[.slice (some ⟨RS, 0, none⟩) L L] 45)) := st.bel.trans (A7.mono hz6)
  have hli0 : LI w (W6.alloc (.cells #[.slice (some ⟨RS, 0, none⟩) L L] 45)) ⟨gs, w1.heap.size, w1.heap.size + 1, w3.heap.size, w3.heap.size + 1, W5.heap.size, RS, W6.heap.size, n, cp, len, L, sy, sgl c sy, vs⟩ t0 (List.replicate len 0) := by
    refine ⟨hv5.later A57 (by omega), (A57.block w1.heap.size (by omega)).trans b75, (A57.block w3.heap.size (by omega)).trans b85, (A57.block (w3.heap.size + 1) (by omega)).trans b95, hs5.later A57, (A7.block RS (by omega)).trans st.blk, fun j hj => ?_, B5.trans (A57.mono (by omega))⟩
    obtain ⟨v, q1, g, cc, q2, q3, q4, q5, q6⟩ := st.at_ j hj
    subst q2
    refine ⟨g, cc, q1, q3.later A7, q4, ?_, q5, q6⟩
    have hpos : 0 < (stp (sgl c sy) j).length := by
      have h := stp_singles (sgl c sy) H0.out.1 j
      have h3 := H0.out.2
      have h4 := HQ.out
      omega
    have := q3 0 _ (List.getElem?_eq_getElem hpos)
    exact World.block_lt_of_cell? _ _ this.1
  have hlo : LO w ⟨gs, w1.heap.size, w1.heap.size + 1, w3.heap.size, w3.heap.size + 1, W5.heap.size, RS, W6.heap.size, n, cp, len, L, sy, sgl c sy, vs⟩ := ⟨hgs.1, hgs.2, by simp, by simp; omega, by simp, by simp; omega, hRSl, hRS⟩
  have hvl := st.len
  have HSTP : Hid (∀ j, j ≤ 15 → (stp (sgl c sy) j).length ≤ 2000) := fun j hj => by have := stp_len_le (sgl c sy) j; have h3 := H0.out.2; have h4 := HQ.out; omega
  generalize W6.alloc (.cells #[.slice (some ⟨RS, 0, none⟩) L L] 45) = W7 at *
  generalize hs : sgl c sy = s at *
  have HSG : Hid (sgl c sy = s) := hs
  clear hs
  have hsv7 := hli0.sv
  refine range_c (by omega) (gf := 32) (lb := #[.pointer (some ⟨W6.heap.size, 0, none⟩)]) rfl (enters_of Try.func32 (by kernel_rfl) rfl)
    (back_seq 3 (by omega) W6.heap.size RS L vs hvl h2 W7 bBs hsv7) (fun h k => ⟨fun x => k.1 (h.1 x), fun x => k.2 (h.2 x)⟩) ?hKb (fun _ => rfl)
    (fun pre X => Boxed X W6.heap.size 45 (.slice (some ⟨RS, 0, none⟩) L L) ∧ LI w X ⟨gs, w1.heap.size, w1.heap.size + 1, w3.heap.size, w3.heap.size + 1, W5.heap.size, RS, W6.heap.size, n, cp, len, L, sy, s, vs⟩ (trn s sy L (List.replicate len 0) pre.length).1 (trn s sy L (List.replicate len 0) pre.length).2) (fun cd pre X => False)
    (fun pre A C h hb => ⟨(hb.block _ (by omega)).trans h.1, h.2.later hlo (hb.mono (by simp; omega))⟩) (fun c s A C h hb => h) ⟨bBs, by show LI _ _ _ (2 * sy.length - 2) _; rw [← HQ.out, ← HT0.out]; exact hli0⟩ ?act ?assign ?body ?done ?stop
  case hKb =>
    intro W l o o' _ hl hc
    refine ⟨fun x => ?_, fun x => ?_⟩
    · refine (World.putObj_heap_other (fun e => ?_)).trans x
      subst e
      rw [show W.heap[RS]? = _ from x] at hl
      cases hl
      cases hc
    · refine (World.putObj_heap_other (fun e => ?_)).trans x
      subst e
      rw [show W.heap[W6.heap.size]? = _ from x] at hl
      cases hl
      cases hc
  case assign =>
    intro l x X K hK
    gi_wp2
    exact hK
  case body =>
    rintro l pre ⟨⟨i, u⟩, hu⟩ X ⟨hbx, us⟩ hN
    simp only at hN hu
    obtain ⟨g, cc, q1, q2, q3, q4, q5, q6⟩ := us.at_ i (by simp only; omega)
    simp only at q1 q2 q3 q4 q5 q6
    obtain rfl : u = .slice (some ⟨g, 0, none⟩) (stp s i).length cc := Option.some.inj (hu.symm.trans q1)
    have hXN : W6.heap.size < X.heap.size := hbx.lt
    have ht := trn_ok s sy L (List.replicate len 0) H0.out.2 H0.out.1 HFUL.out pre.length (by omega)
    rw [show L - 1 - pre.length = i from by omega] at ht
    have hfew := trn_few s sy H0.out.2 H0.out.1 i _ ht
    have HTR : Hid (trn s sy L (List.replicate len 0) (pre.length + 1) = (2 * cntP ((stp s i).take (trn s sy L (List.replicate len 0) pre.length).1), lng (trn s sy L (List.replicate len 0) pre.length).2 (sy.take ((trn s sy L (List.replicate len 0) pre.length).1 - cntP ((stp s i).take (trn s sy L (List.replicate len 0) pre.length).1))))) := by
      show _ = _
      rw [show i = L - 1 - pre.length from by omega]
      rfl
    have hbd := HTB.out pre.length
    have hll := trn_len s sy L (List.replicate len 0) pre.length
    rw [List.length_replicate] at hll
    have hsl := HSTP.out i (by omega)
    generalize (trn s sy L (List.replicate len 0) pre.length).1 = t at *
    generalize (trn s sy L (List.replicate len 0) pre.length).2 = ls at *
    have KP := pairsAmong_any X g 0 t cc ((stp s i).take t) (by rw [List.length_take]; omega) (by omega) (q2.take t)
    have hpt := cntP_le ((stp s i).take t)
    rw [List.length_take] at hpt
    generalize cntP ((stp s i).take t) = p2 at *
    have hqn := HQ.out
    obtain ⟨d, hd⟩ : ∃ d, d = t - p2 := ⟨_, rfl⟩
    rw [← hd] at HTR
    have hdi : IntKind.i64.wrap ((t : Int) - (p2 : Int)) = (d : Int) := by rw [IntKind.wrap_i64]; omega
    have hdcp : (d : Int) ≤ (cp : Int) := by omega
    have hdn : d ≤ n := by omega
    have htl : (t : Int) ≤ ((stp s i).length : Int) := by omega
    have htc : (t : Int) ≤ (cc : Int) := by omega
    have hsl' : ((stp s i).length : Int) ≤ 2000 := by omega
    have hp2' : (p2 : Int) ≤ 2000 := by omega
    generalize hsi : (stp s i).length = sl at *
    have k9 := us.b9.cell
    simp only at k9
    have HUS : Hid _ := us
    have HHU : Hid (pre.length < 15) := by show _ < _; omega
    have HD : Hid (d = t - p2) := hd
    clear us q1 q2 hN ht hfew hpt hqn hsi hd
    gi_wp2_with (refine ⟨trivial, ?_⟩; gi_at_call 23; refine (CallsIn.inRound l (callsIn_wide.2 KP)).mono ?_; rintro e X2 ⟨rfl, hb2⟩)
    have us2 := HUS.out.later hlo (hb2.mono (by simp; omega))
    have u8 : Boxed X2.drew _ _ _ := us2.b8
    have u7 : Boxed X2.drew _ _ _ := us2.b7
    have u9 : Boxed X2.drew _ _ _ := us2.b9
    simp only at u8 u7 u9
    have s0 : X2.drew.cell? ⟨w3.heap.size, 0, none⟩ = some (.slice (some ⟨w1.heap.size + 1, 0, none⟩) len len) ∧ X2.drew.cell? ⟨w1.heap.size, 0, none⟩ = some (.slice (some ⟨gs, 0, none⟩) n cp) ∧ X2.drew.cell? ⟨w3.heap.size + 1, 0, none⟩ = some (.int .i64 (t : Int)) := ⟨u8.cell, u7.cell, u9.cell⟩
    have hv2 : Vec X2.drew (w1.heap.size + 1) ls := us2.row
    have hsy2 : Src X2.drew (some ⟨gs, 0, none⟩) d cp (cn (sy.take d)) := by
      have h : Src X2.drew (some ⟨gs, 0, none⟩) n cp (cn sy) := us2.sy
      have h2 := src_take h hdn
      have e : (cn sy).take d = cn (sy.take d) := by unfold cn ci nm; rw [List.map_take, List.map_take]
      rwa [e] at h2
    have KL := lengthen_any X2.drew (some ⟨gs, 0, none⟩) (w1.heap.size + 1) d cp len ls (sy.take d) hv2 hll hsy2 (fun _ g' o' e => by cases e; omega) (fun x hx => HSY.out x (List.mem_of_mem_take hx)) (by omega) hlen (1000 * pre.length) hbd (by have := HHU.out; omega)
    refine round_held (S := fun Y => Y.cell? ⟨w3.heap.size, 0, none⟩ = some (.slice (some ⟨w1.heap.size + 1, 0, none⟩) len len) ∧ Y.cell? ⟨w1.heap.size, 0, none⟩ = some (.slice (some ⟨gs, 0, none⟩) n cp) ∧ Y.cell? ⟨w3.heap.size + 1, 0, none⟩ = some (.int .i64 (t : Int))) l (by kernel_rfl) (by intro i o c ho hc; rcases i with _|_|_|_|_|_|_|i <;> simp at ho <;> subst ho <;> cases hc) ?lets s0 (fun hHeld => ?_)
    case lets =>
      rintro ⟨a', w', h⟩
      exact h
    generalize hXd : X2.drew = Xd at *
    refine wpAnyH_take (i := 0) (v := ?_) rfl (by kernel_rfl) (by kernel_rfl) (by kernel_rfl) (fun _ _ _ h => h) (Or.inl ⟨by rfl, ?_⟩) (by assumption) ?_
    rotate_left
    · intro w hSw
      (try dsimp only at hSw)
      (try (obtain ⟨_, _, _, _, _, _, _⟩ := hSw))
      (try (obtain ⟨_, _⟩ := hSw))
      go_simp
      (try with_reducible rfl)
    (try simp only [Act.put, List.setIfInBounds_toArray, List.set_cons_zero, List.set_cons_succ])
    refine wpAnyH_take (i := 1) (v := ?_) rfl (by kernel_rfl) (by kernel_rfl) (by kernel_rfl) (fun _ _ _ h => h) (Or.inl ⟨by rfl, ?_⟩) (by assumption) ?_
    rotate_left
    · intro w hSw
      (try dsimp only at hSw)
      (try (obtain ⟨_, _, _, _, _, _, _⟩ := hSw))
      (try (obtain ⟨_, _⟩ := hSw))
      go_simp
      (try with_reducible rfl)
    (try simp only [Act.put, List.setIfInBounds_toArray, List.set_cons_zero, List.set_cons_succ])
    refine wpAnyH_take (i := 2) (v := ?_) rfl (by kernel_rfl) (by kernel_rfl) (by kernel_rfl) (fun _ _ _ h => h) (Or.inl ⟨by rfl, ?_⟩) (by assumption) ?_
    rotate_left
    · intro w hSw
      (try dsimp only at hSw)
      (try (obtain ⟨_, _, _, _, _, _, _⟩ := hSw))
      (try (obtain ⟨_, _⟩ := hSw))
      go_simp
      (try with_reducible rfl)
    (try simp only [Act.put, List.setIfInBounds_toArray, List.set_cons_zero, List.set_cons_succ])
    refine wpAnyH_take (i := 3) (v := ?_) rfl (by kernel_rfl) (by kernel_rfl) (by kernel_rfl) (fun _ _ _ h => h) (Or.inl ⟨by rfl, ?_⟩) (by assumption) ?_
    rotate_left
    · intro w hSw
      (try dsimp only at hSw)
      (try (obtain ⟨_, _, _, _, _, _, _⟩ := hSw))
      (try (obtain ⟨_, _⟩ := hSw))
      go_simp
      (try with_reducible rfl)
    (try simp only [Act.put, List.setIfInBounds_toArray, List.set_cons_zero, List.set_cons_succ])
    refine wpAnyH_take (i := 4) (v := ?_) rfl (by kernel_rfl) (by kernel_rfl) (by kernel_rfl) (fun _ _ _ h => h) (Or.inl ⟨by rfl, ?_⟩) (by assumption) ?_
    rotate_left
    · intro w hSw
      (try dsimp only at hSw)
      (try (obtain ⟨_, _, _, _, _, _, _⟩ := hSw))
      (try (obtain ⟨_, _⟩ := hSw))
      go_simp
      (try with_reducible rfl)
    (try simp only [Act.put, List.setIfInBounds_toArray, List.set_cons_zero, List.set_cons_succ])
    refine wpAnyH_take (i := 5) (v := ?_) rfl (by kernel_rfl) (by kernel_rfl) (by kernel_rfl) (fun _ _ _ h => h) (Or.inl ⟨by rfl, ?_⟩) (by assumption) ?_
    rotate_left
    · intro w hSw
      (try dsimp only at hSw)
      (try (obtain ⟨_, _, _, _, _, _, _⟩ := hSw))
      (try (obtain ⟨_, _⟩ := hSw))
      go_simp
      (try with_reducible rfl)
    (try simp only [Act.put, List.setIfInBounds_toArray, List.set_cons_zero, List.set_cons_succ])
    refine wpAnyH_ready (rs := [6]) (by kernel_rfl) (by simp) ?_
    refine AllReadyH.cons rfl (fun K hK => ?_) AllReadyH.nil
    go_simp
    refine KL.mono ?_
    rintro e X3 ⟨rfl, hv3', hg3⟩
    have hXdN : W6.heap.size < Xd.heap.size := by rw [← hXd]; exact Nat.lt_of_lt_of_le hXN hb2.size
    have z8 : Boxed X3 w3.heap.size 22 (.slice (some ⟨w1.heap.size + 1, 0, none⟩) len len) := (hg3.block _ (by omega) (by simp; omega)).trans u8
    have z7 : Boxed X3 w1.heap.size 22 (.slice (some ⟨gs, 0, none⟩) n cp) := (hg3.block _ (by omega) (by simp)).trans u7
    have z9 : Boxed X3 (w3.heap.size + 1) 3 (.int .i64 (t : Int)) := (hg3.block _ (by omega) (by simp; omega)).trans u9
    go_simp
    refine hK.out _ _ ⟨z8.cell, z7.cell, z9.cell⟩ (fun _ => ?_)
    clear hK K
    refine wpAnyH_done (by kernel_rfl) ?_ _
    have k93 := z9.cell
    have f93 := z9.frozen
    clear KL hv2 hsy2
    gi_wp2
    have hXdb : ∀ b, b < X.heap.size → Xd.heap[b]? = X.heap[b]? := fun b h => by rw [← hXd]; exact hb2.block b h
    have hXds : X.heap.size ≤ Xd.heap.size := by rw [← hXd]; exact hb2.size
    have hkb : ∀ b, b < X.heap.size → b ≠ w1.heap.size + 1 → b ≠ w3.heap.size + 1 → (X3.setCell ⟨w3.heap.size + 1, 0, none⟩ (.int .i64 (2 * (p2 : Int)))).heap[b]? = X.heap[b]? := fun b h1 h2 h3 =>
      ((Below.heap_setCell X3 ⟨w3.heap.size + 1, 0, none⟩ _ b h3).trans (hg3.block b (by omega) (fun e => h2 (Option.some.inj e)))).trans (hXdb b h1)
    have hsz4 : X.heap.size ≤ (X3.setCell ⟨w3.heap.size + 1, 0, none⟩ (.int .i64 (2 * (p2 : Int)))).heap.size := Nat.le_trans hXds (Nat.le_trans hg3.size (KeepsOthers.setCell X3 _ _).size)
    have hne : ∀ b C t' fr, X.heap[b]? = some (.cells C t' fr) → b < X.heap.size := fun b C t' fr h => (Array.getElem?_eq_some_iff.1 h).1
    have hRX := HUS.out.row
    have h9X := HUS.out.b9
    refine ⟨⟨hsz4, fun b o ho hc => (hkb b (Array.getElem?_eq_some_iff.1 ho).1 (fun e => ?_) (fun e => ?_)).trans ho⟩, ⟨fun x => (hkb RS (by omega) (by omega) (by omega)).trans x, fun x => (hkb W6.heap.size (by omega) (by omega) (by omega)).trans x⟩, (hkb W6.heap.size (by omega) (by omega) (by omega)).trans hbx, ?_⟩
    · subst e
      rw [show X.heap[w1.heap.size + 1]? = _ from hRX] at ho
      cases ho
      cases hc
    · subst e
      rw [show X.heap[w3.heap.size + 1]? = _ from h9X] at ho
      cases ho
      cases hc
    · rw [List.length_append, List.length_singleton, HTR.out]
      have B0 := HUS.out.bel
      have hwN : w.heap.size ≤ w1.heap.size := hz
      refine HUS.out.move hlo (fun b h1 h2 h3 => hkb b (by simp only at h1; omega) h2 h3) (hv3'.other (by omega) _) ?_ ⟨?_, ?_, ?_, Nat.le_trans B0.size hsz4, fun b h => (hkb b (Nat.lt_of_lt_of_le h B0.size) (by omega) (by omega)).trans (B0.block b h)⟩
      · have h := Boxed.set (.int .i64 (2 * (p2 : Int))) z9
        simpa using h
      · exact (hg3.os.trans (by rw [← hXd]; exact hb2.os)).trans B0.os
      · exact (hg3.tape.trans (by rw [← hXd]; exact hb2.tape)).trans B0.tape
      · exact (hg3.output.trans (by rw [← hXd]; exact hb2.output)).trans B0.output
  case done =>
    rintro D ys X hD hys ⟨hbx, us⟩ hK
    rw [hys, HNQ.out] at us
    have k8 := us.b8.cell
    gi_wp2
    refine ⟨by simp, .inl ⟨_, _, rfl, run_takeDeferred hK, ?_⟩⟩
    refine ⟨_, by simp [results, Try.f7, go_sem], w1.heap.size + 1, rfl, ?_, by omega, us.bel.trans (put_below _ _ _ (by omega))⟩
    have h : Vec X (w1.heap.size + 1) (back s sy L (2 * sy.length - 2) (List.replicate len 0)) := us.row
    rw [← HSG.out] at h
    exact (World.putObj_heap_other (by simp; omega)).trans h
  case stop =>
    rintro D c pre X hD hp h hK
    exact h.elim
end Go.Proofs.Ytfcjnpbnejaolaa
