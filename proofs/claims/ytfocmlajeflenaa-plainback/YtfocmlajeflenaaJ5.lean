/-
  A row's bytes: how many, and which.
-/
import Derived.Test.YtfocmlajeflenaaPlK
import Derived.Test.YtfocmlajeflenaaBox
import Derived.Test.YtfocmlajeflenaaJ3
import Derived.WalkSmall
import Derived.Test.YtfocmlajeflenaaBRUnp
namespace Go.Proofs.Ytfocmlajeflenaa
set_option linter.unusedVariables false
set_option linter.unusedSimpArgs false
open Go.ChangeShapes Go.WideShapes Go.ChangeAt Go.RowKit Go.Deep

theorem all_at {k z : Int} {l : List Dat} (h : wAll k z l = true) {i : Nat} {d : Dat} (hd : l[i]? = some d) : ofB d.k d.n d.s.size k z = true := List.all_eq_true.1 h d (List.mem_of_getElem? hd)
theorem all_len {k z : Int} {l : List Dat} (h : wAll k z l = true) (h0 : k ≠ 0) : ∀ i, (eb (l.take i)).length ≤ 1048580 * i := by
  intro i
  induction i with
  | zero => simp [eb]
  | succ i ih =>
    rcases Nat.lt_or_ge i l.length with hi | hi
    · rw [List.take_succ_eq_append_getElem hi, eb_snoc, List.length_append]
      have ho := all_at h (List.getElem?_eq_getElem hi)
      have := (of_size ho).1
      rw [db_len ho h0]
      omega
    · rw [List.take_of_length_le (by omega)] at ih ⊢
      omega
theorem eb_next {k z : Int} {l : List Dat} (h : wAll k z l = true) (h0 : k ≠ 0) {i : Nat} {d : Dat} (hd : l[i]? = some d) : eb (l.take (i + 1)) = eb (l.take i) ++ db d ∧ (db d).length = dsz k z d := by
  obtain ⟨h1, h2⟩ := List.getElem?_eq_some_iff.1 hd
  subst h2
  refine ⟨?_, db_len (all_at h hd) h0⟩
  rw [List.take_succ_eq_append_getElem h1, eb_snoc]

set_option maxRecDepth 100000 in
set_option maxHeartbeats 2000000 in
theorem sizeAll_any (w : World) (p : Value) (k z : Int) (hp : Part w p k z) (h0 : k ≠ 0) (a : Option Addr) (len cap : Nat) (l : List Dat) (h : Data w a len cap l) (hall : wAll k z l = true) (hlen : len ≤ 65536) :
    Calls Try.prog 60 #[p, .slice a len cap] w fun e w' => e = .returned (.int .i64 (eb l).length) ∧ Below w.heap.size w w' := by
  have hl := h.1
  obtain ⟨f1, f2, f3, b1, b2, b3, rfl, e1, e2, e3, c1, c2, c3⟩ := hp.ex
  unfold Ent at e1
  have ab := alloc_below w (.cells #[.func (.func f1) #[] b1, .func (.func f2) #[] b2, .func (.func f3) #[] b3] 96 (0, 0))
  have hx : (w.alloc (.cells #[.func (.func f1) #[] b1, .func (.func f2) #[] b2, .func (.func f3) #[] b3] 96 (0, 0))).heap[w.heap.size]? = some (.cells #[.func (.func f1) #[] b1, .func (.func f2) #[] b2, .func (.func f3) #[] b3] 96 (0, 0)) := heap_new w _
  have HL : Hid (l.length = len) := hl
  have HM := fun i => all_len hall h0 i
  have HMh : Hid (∀ i, (eb (l.take i)).length ≤ 1048580 * i) := HM
  have hlen' : (len : Int) ≤ 65536 := by omega
  clear hl HM
  go_enter Try.func60, Try.ntmps60
  go_wp2_with fail
  generalize w.alloc (.cells #[.func (.func f1) #[] b1, .func (.func f2) #[] b2, .func (.func f3) #[] b3] 96 (0, 0)) = W0 at *
  go_loopw [5, 10] (fun sv iv wr => ∃ i n : Nat, i ≤ len ∧ iv = .int .i64 (i : Int) ∧ sv = .int .i64 (n : Int) ∧ Hid (n = (eb (l.take i)).length) ∧ Below W0.heap.size W0 wr) (fun _ iv _ => len - (intOf iv).toNat)
  case atStart => exact ⟨0, 0, Nat.zero_le _, rfl, rfl, rfl, Below.refl _ _⟩
  case round =>
    obtain ⟨i, n, hi, rfl, rfl, H, hb⟩ := hrel
    have hbw := ab.trans (hb.mono ab.size)
    by_cases hlt : i < len
    · have hlt' : (i : Int) < (len : Int) := by omega
      obtain ⟨d, g, o, hd, wd, rfl, hg, y0, y1, y2⟩ := data_at (h.later hbw) hlt
      obtain ⟨he1, he2⟩ := eb_next hall h0 hd
      have hod := of_size (all_at hall hd)
      have hsd : d.s.size ≤ 1048576 := by
        have := (fine_parts (of_parts (all_at hall hd)).2.2.1).2.2.2.2
        have hb5 : bo d.k 5 ≤ 1048576 := by simp only [bo]; split <;> omega
        omega
      have HN : Hid (n + dsz k z d = (eb (l.take (i + 1))).length) := by
        have := H.out
        show _ = _
        rw [he1, List.length_append, he2]
        omega
      have hbn : (n : Int) ≤ 1048580 * 65536 := by
        have h1 := H.out
        have h2 := HMh.out i
        have h3 : 1048580 * i ≤ 1048580 * 65536 := Nat.mul_le_mul_left _ (by omega)
        omega
      have hab := alloc_below wr (.cells #[.int .i64 d.k, .int .i64 d.n, .string d.s] 48 (0, 0))
      have C := c1 _ (hbw.trans (hab.mono hbw.size)) d hsd
      have hz1 := hod.1
      have hz1' : ((dsz k z d : Nat) : Int) ≤ 1048580 := by omega
      generalize dsz k z d = s at *
      simp only [dval] at C
      obtain ⟨⟨z0, z1, z2⟩, _⟩ := blk3 (below_at hb hx)
      have z0' := cell_later hab z0
      clear he1 he2 hod hsd hd wd c1 c2 c3 z1 z2 hz1 H
      go_wp2_with fail
      refine C.mono ?_
      rintro e W2 ⟨rfl, hb2⟩
      have hb3 := hb.trans ((hab.trans (hb2.mono hab.size)).mono hb.size)
      clear C hb2 hab z0 z0'
      go_wp2_with fail
      go_roundw
      case rel => exact ⟨i + 1, n + s, by omega, by go_num, by go_num, HN, hb3⟩
      case measure => simp [intOf]; omega
    · have hlt' : (len : Int) ≤ (i : Int) := by omega
      have HE : Hid (n = (eb l).length) := by
        have := H.out
        rw [List.take_of_length_le (by have := HL.out; omega)] at this
        exact this
      go_wp2_with fail
      go_ret
      exact ⟨by rw [HE.out]; rfl, hbw⟩

set_option maxRecDepth 100000 in
set_option maxHeartbeats 4000000 in
theorem layAll_any (w : World) (p : Value) (k z : Int) (hp : Part w p k z) (h0 : k ≠ 0) (a : Option Addr) (len cap : Nat) (l : List Dat) (h : Data w a len cap l) (hall : wAll k z l = true) (hlen : len ≤ 65536) (hsz : (eb l).length ≤ 1048576) :
    Calls Try.prog 61 #[p, .slice a len cap] w fun e w' => ∃ u, e = .returned u ∧ w'.ownsRow w.heap.size 5 1 u (eb l).length (c8 (eb l)) ∧ Below w.heap.size w w' := by
  have hl := h.1
  have SA := fun W (hb : Below w.heap.size w W) => sizeAll_any W p k z (hp.later hb) h0 a len cap l (h.later hb) hall hlen
  obtain ⟨f1, f2, f3, b1, b2, b3, rfl, e1, e2, e3, c1, c2, c3⟩ := hp.ex
  unfold Ent at e2
  have ab := alloc_below w (.cells #[.func (.func f1) #[] b1, .func (.func f2) #[] b2, .func (.func f3) #[] b3] 96 (0, 0))
  have hx : (w.alloc (.cells #[.func (.func f1) #[] b1, .func (.func f2) #[] b2, .func (.func f3) #[] b3] 96 (0, 0))).heap[w.heap.size]? = some (.cells #[.func (.func f1) #[] b1, .func (.func f2) #[] b2, .func (.func f3) #[] b3] 96 (0, 0)) := heap_new w _
  have HL : Hid (l.length = len) := hl
  obtain ⟨i0, hi, hz0, hz1, hz2⟩ := info_parts infoU8
  have hlen' : (len : Int) ≤ 65536 := by omega
  have hsz' : ((eb l).length : Int) ≤ 1048576 := by omega
  have HZ : Hid ((eb l).length ≤ 1048576) := hsz
  have HSum : Hid (∀ i, (eb (l.take i)).length ≤ (eb l).length) := by
    intro i
    have e : eb l = eb (l.take i) ++ eb (l.drop i) := by rw [← eb_append, List.take_append_drop]
    rw [e, List.length_append]
    omega
  obtain ⟨S, HS⟩ : ∃ S : Nat, Hid ((eb l).length = S) := ⟨_, rfl⟩
  rw [HS.out] at SA hsz'
  clear hl hsz
  go_enter Try.func61, Try.ntmps61
  go_wp2_with fail
  generalize w.alloc (.cells #[.func (.func f1) #[] b1, .func (.func f2) #[] b2, .func (.func f3) #[] b3] 96 (0, 0)) = W0 at *
  refine (SA _ ab).mono ?_
  rintro e W1 ⟨rfl, hb1⟩
  have hb01 := ab.trans (hb1.mono ab.size)
  have hx1 := below_at hb1 hx
  have hs1 := hb01.size
  have hbx : w.heap.size < W1.heap.size := Nat.lt_of_lt_of_le (by have := ab.size; rcases Nat.lt_or_ge w.heap.size W0.heap.size with h | h; exact h; rw [Array.getElem?_eq_none h] at hx; cases hx) hb1.size
  clear SA hb1 hx
  go_wp2_with (at_make; refine wpList_make_own _ rfl _ _ 27 rfl (w.heap.size + 1) 5 i0 (.int .u8 0) 1 Try.underlying27 hi hz0 hz1 _ _ _ S rfl rfl rfl (by rw [hz2]; omega) (by unfold maxLen; omega) (by omega) ?_; intro w2 hown2 hgrow2)
  have hb2 : Below W1.heap.size W1 w2 := (Below.refl _ W1).grown hgrow2 (Nat.le_refl _) (fun _ e => by cases e)
  have hbw2 := hb01.trans (hb2.mono hs1)
  have hx2 := below_at hb2 hx1
  clear hgrow2
  obtain ⟨B, HB⟩ : ∃ B : Nat, Hid (w.heap.size + 1 = B) := ⟨_, rfl⟩
  have hB0 : w.heap.size < B := by have := HB.out; omega
  have hB1 : B ≤ w2.heap.size := Nat.le_trans (by have := HB.out; omega) hb2.size
  rw [HB.out] at hown2
  clear hb01 hs1 hbx hx1 hb2
  go_loopw [5, 14] (fun ov iv wr => ∃ (i n : Nat), i ≤ len ∧ iv = .int .i64 (i : Int) ∧ Hid (n = (eb (l.take i)).length) ∧ wr.ownsRow B 5 1 ov n (c8 (eb (l.take i))) ∧ Below B w2 wr) (fun _ iv _ => len - (intOf iv).toNat)
  case atStart => exact ⟨0, 0, Nat.zero_le _, rfl, rfl, hown2, Below.refl _ _⟩
  case round =>
    obtain ⟨i, n, hi, rfl, H, hown, hb⟩ := hrel
    have hbw := hbw2.trans (hb.mono (Nat.le_of_lt hB0))
    by_cases hlt : i < len
    · have hlt' : (i : Int) < (len : Int) := by omega
      obtain ⟨d, g, o, hd, wd, rfl, hg, y0, y1, y2⟩ := data_at (h.later hbw) hlt
      obtain ⟨he1, he2⟩ := eb_next hall h0 hd
      have hod := all_at hall hd
      have hn : n ≤ 1048576 := by have h1 := H.out; have h2 := HSum.out i; have h3 := HZ.out; omega
      have hab := alloc_below wr (.cells #[.int .i64 d.k, .int .i64 d.n, .string d.s] 48 (0, 0))
      have hBr : B ≤ wr.heap.size := Nat.le_trans hB1 hb.size
      have C := c2 _ (hbw.trans (hab.mono hbw.size)) d B u5 n _ hod (hown.alloc _) (Nat.le_of_lt hB0) (by simp; omega) (by omega)
      have HN : Hid (n + (db d).length = (eb (l.take (i + 1))).length) := by
        have := H.out
        show _ = _
        rw [he1, List.length_append]
        omega
      rw [← c8_append, ← he1] at C
      obtain ⟨⟨z0, z1, z2⟩, _⟩ := blk3 (show wr.heap[w.heap.size]? = some _ from by rw [hb.block _ hB0]; exact hx2)
      have z1' := cell_later hab z1
      simp only [dval] at C
      clear he1 he2 hod hd wd c1 c2 c3 z0 z1 z2 H hown
      go_wp2_with fail
      refine C.mono ?_
      rintro e W3 ⟨u', rfl, hown3, hb3⟩
      have hb4 := hb.trans ((hab.mono hBr).trans hb3)
      clear C hb3 hab z1'
      go_wp2_with fail
      go_roundw
      case rel => exact ⟨i + 1, _, by omega, by go_num, HN, hown3, hb4⟩
      case measure => simp [intOf]; omega
    · have hlt' : (len : Int) ≤ (i : Int) := by omega
      have HE : Hid (n = (eb l).length ∧ wr.ownsRow B 5 1 u5 n (c8 (eb l))) := by
        have h1 := H.out
        rw [List.take_of_length_le (by have := HL.out; omega)] at h1 hown
        exact ⟨h1, hown⟩
      clear hown
      go_wp2_with fail
      go_ret
      exact ⟨_, rfl, by rw [← HE.out.1]; exact own_mono HE.out.2 (by omega), hbw⟩
end Go.Proofs.Ytfocmlajeflenaa

/-
  Truths: how many bytes, and which.
-/
namespace Go.Proofs.Ytfocmlajeflenaa
set_option linter.unusedVariables false
set_option linter.unusedSimpArgs false
open Go.ChangeShapes Go.WideShapes Go.ChangeAt Go.RowKit Go.Deep

def ns (l : List Dat) : List Int := l.map fun d => d.n
theorem ns_nats (l : List Dat) : nats (ns l) = tbits l := by simp [ns, nats, tbits]
theorem truth_n {z : Int} {d : Dat} (h : ofB d.k d.n d.s.size 0 z = true) : 0 ≤ d.n ∧ d.n ≤ 1 := by
  obtain ⟨e, hc, hf, _⟩ := of_parts h
  obtain ⟨_, h1, h2, _⟩ := fine_parts hf
  rw [e] at h1 h2
  exact ⟨h1, h2⟩
theorem truths_u {z : Int} {l : List Dat} (h : wAll 0 z l = true) : U64 (ns l) := by
  intro x hx
  obtain ⟨d, hd, rfl⟩ := List.mem_map.1 hx
  have := truth_n (List.all_eq_true.1 h d hd)
  omega
theorem truths_w {z : Int} {l : List Dat} (h : wAll 0 z l = true) : wide 1 (ns l) = false := by
  unfold wide
  rw [List.any_eq_false]
  intro x hx
  obtain ⟨d, hd, rfl⟩ := List.mem_map.1 hx
  have h1 := truth_n (List.all_eq_true.1 h d hd)
  have h2 := Lib.bitLen_le d.n.toNat 1 (by omega) (by omega)
  simp only [wide1, decide_eq_true_eq]
  omega
theorem sze1 {L : Nat} (h : L ≤ 65536) : sze (1 : Nat) L = 0 := (sze_ok (wd := ((1 : Nat) : Int)) (ct := (L : Int)) (by omega) (by omega) (by omega)).1

set_option maxRecDepth 100000 in
set_option maxHeartbeats 1000000 in
theorem sizeTruths_any (w : World) (a : Option Addr) (len cap : Nat) (hlen : len ≤ 65536) :
    Calls Try.prog 40 #[.slice a len cap] w fun e w' => e = .returned (.int .i64 ((len + 7) / 8 : Nat)) ∧ w' = w := by
  have SZ := fun W => size_ok (W := 1) (L := len) (S := (len + 7) / 8) (sze1 hlen) (by omega) W
  have hlen' : (len : Int) ≤ 65536 := by omega
  rw [show (((1 : Nat) : Int)) = 1 from rfl] at SZ
  generalize (len + 7) / 8 = S at *
  go_enter Try.func40, Try.ntmps40
  go_wp2_with fail
  refine (SZ _).mono ?_
  rintro e W1 ⟨rfl, hW1⟩
  obtain rfl := hW1.symm
  go_wp2_with fail
  go_ret
  exact ⟨rfl, rfl⟩

theorem set_mid2 {α : Type} (l : List α) (x u : α) (m j : Nat) (h : l.length = j) : (l ++ List.replicate (m + 1) x).set j u = (l ++ [u]) ++ List.replicate m x := by
  subst h
  rw [List.set_append_right _ _ (Nat.le_refl _)]
  simp [List.replicate_succ]
theorem ns_next {l : List Dat} {i : Nat} {d : Dat} (hd : l[i]? = some d) : (ns l).take (i + 1) = (ns l).take i ++ [d.n] := by
  obtain ⟨h1, h2⟩ := List.getElem?_eq_some_iff.1 hd
  rw [List.take_succ_eq_append_getElem (by simpa [ns] using h1)]
  simp [ns, h2]
theorem truth_store {wr : World} {B g len i : Nat} {l : List Dat} {d : Dat} {u : Value} (hown : wr.ownsRow B 65 1 (.slice (some ⟨g, 0, none⟩) len len) len (((ns l).take i ++ List.replicate (len - i) 0).map (Value.int .u64))) (hd : l[i]? = some d) (hl : l.length = len) (hu : u = .int .u64 d.n) :
    (wr.setCell ⟨g, i, none⟩ u).ownsRow B 65 1 (.slice (some ⟨g, 0, none⟩) len len) len (((ns l).take (i + 1) ++ List.replicate (len - (i + 1)) 0).map (Value.int .u64)) := by
  have hi : i < l.length := (List.getElem?_eq_some_iff.1 hd).1
  have e := (hown.stored i u).1
  subst hu
  rw [← List.map_set, show len - i = (len - (i + 1)) + 1 from by omega, set_mid2 _ _ _ _ i (by simp [ns]; omega), ← ns_next hd] at e
  exact e

set_option maxRecDepth 100000 in
set_option maxHeartbeats 4000000 in
theorem layTruths_any (w : World) (a : Option Addr) (len cap : Nat) (z : Int) (l : List Dat) (h : Data w a len cap l) (hall : wAll 0 z l = true) (hlen : len ≤ 65536) :
    Calls Try.prog 41 #[.slice a len cap] w fun e w' => ∃ u, e = .returned u ∧ w'.ownsRow w.heap.size 5 1 u ((len + 7) / 8) (c8 (upk 8 ((len + 7) / 8) (pk 1 (tbits l)))) ∧ Below w.heap.size w w' := by
  have HL : Hid (l.length = len) := h.1
  obtain ⟨i0, hi, hz0, hz1, hz2⟩ := info_parts Try.info65
  have hlen' : (len : Int) ≤ 65536 := by omega
  go_enter Try.func41, Try.ntmps41
  go_wp2_with (at_make; refine wpList_make_full _ rfl _ _ 64 rfl w.heap.size 65 i0 (.int .u64 0) 1 Try.underlying64 hi hz0 hz1 _ _ _ _ len rfl rfl rfl rfl (by rw [hz2]; omega) (by unfold maxLen; omega) (Nat.le_refl _) ?_; intro w1 hown1 hgrow1)
  have hgb : Below w.heap.size w w1 := (Below.refl _ w).grown hgrow1 (Nat.le_refl _) (fun _ e => by cases e)
  clear hgrow1
  rw [made_zero] at hown1
  go_loopw [13] (fun iv wr => ∃ i : Nat, i ≤ len ∧ iv = .int .i64 (i : Int) ∧ wr.ownsRow w.heap.size 65 1 (.slice (some ⟨w.heap.size, 0, none⟩) len len) len (((ns l).take i ++ List.replicate (len - i) 0).map (Value.int .u64)) ∧ Below w.heap.size w wr) (fun iv _ => len - (intOf iv).toNat)
  case atStart => exact ⟨0, Nat.zero_le _, rfl, by simpa using hown1, hgb⟩
  case round =>
    obtain ⟨i, hi', rfl, hown, hb⟩ := hrel
    clear hown1 hgb
    by_cases hlt : i < len
    · have hlt' : (i : Int) < (len : Int) := by omega
      obtain ⟨d, g, o, hd, wd, rfl, hg, y0, y1, y2⟩ := data_at (h.later hb) hlt
      have hn := truth_n (all_at hall hd)
      have hown2 := hown.alloc (.cells #[.int .i64 d.k, .int .i64 d.n, .string d.s] 48 (0, 0))
      have hab := alloc_below wr (.cells #[.int .i64 d.k, .int .i64 d.n, .string d.s] 48 (0, 0))
      have hw : IntKind.u64.wrap d.n = d.n := by rw [IntKind.wrap_u64]; omega
      have hcj : (wr.alloc (.cells #[.int .i64 d.k, .int .i64 d.n, .string d.s] 48 (0, 0))).cell? ⟨w.heap.size, i, none⟩ = some (.int .u64 0) := by
        rw [hown2.cellAt i (by omega)]
        have hl : ((ns l).take i).length = i := by have := HL.out; simp [ns]; omega
        rw [List.map_append, List.getElem?_append_right (by rw [List.length_map]; omega), List.length_map, hl, Nat.sub_self]
        simp only [List.map_replicate, List.getElem?_replicate]
        rw [if_pos (by omega)]
      have hfj := hown2.frozenAt i
      have HST : Hid (∀ u, u = .int .u64 d.n → ((wr.alloc (.cells #[.int .i64 d.k, .int .i64 d.n, .string d.s] 48 (0, 0))).setCell ⟨w.heap.size, i, none⟩ u).ownsRow w.heap.size 65 1 (.slice (some ⟨w.heap.size, 0, none⟩) len len) len (((ns l).take (i + 1) ++ List.replicate (len - (i + 1)) 0).map (Value.int .u64))) := fun u hu => truth_store hown2 hd HL.out hu
      have HB2 : Hid (∀ u, Below w.heap.size w ((wr.alloc (.cells #[.int .i64 d.k, .int .i64 d.n, .string d.s] 48 (0, 0))).setCell ⟨w.heap.size, i, none⟩ u)) := fun u => (hb.trans (hab.mono hb.size)).setCell (p := ⟨w.heap.size, i, none⟩) (Nat.le_refl _) u
      clear hown hown2 hd wd
      go_wp2_with fail
      go_roundw
      case rel => exact ⟨i + 1, by omega, by go_num, HST.out _ rfl, HB2.out _⟩
      case measure => simp [intOf]; omega
    · have hlt' : (len : Int) ≤ (i : Int) := by omega
      have hs : Src wr (some ⟨w.heap.size, 0, none⟩) len len ((ns l).map (Value.int .u64)) := by
        have hil : i = len := by omega
        have := (src_own hown).2
        rw [hil, Nat.sub_self, List.take_of_length_le (by have := HL.out; simp [ns]; omega)] at this
        simpa using this
      have P := pack_yes (some ⟨w.heap.size, 0, none⟩) len len 1 ((len + 7) / 8) (ns l) wr hs (truths_u hall) (truths_w hall) (sze1 hlen) (by omega)
      rw [ns_nats] at P
      have hbs := hb.size
      clear hown hs
      go_wp2_with fail
      refine P.mono ?_
      rintro e W3 ⟨v, rfl, hown3, hb3⟩
      obtain ⟨va, vc, rfl⟩ := own_sl hown3
      clear P
      go_wp2_with fail
      go_ret
      exact ⟨_, rfl, own_mono hown3 hbs, hb.trans (hb3.mono hbs)⟩
end Go.Proofs.Ytfocmlajeflenaa
