/-
  A row's bytes: how many, and which.
-/
import Derived.Test.YtfocmlajeflenaaPlK
import Derived.Test.YtfocmlajeflenaaBox
import Derived.Test.YtfocmlajeflenaaBPackAny
import Derived.WalkSmall
namespace Go.Proofs.Ytfocmlajeflenaa
set_option linter.unusedVariables false
set_option linter.unusedSimpArgs false
open Go.ChangeShapes Go.WideShapes Go.ChangeAt Go.RowKit Go.Deep

theorem all_at {k z : Int} {l : List Dat} (h : wAll k z l = true) {i : Nat} {d : Dat} (hd : l[i]? = some d) : ofB d.k d.n d.s.size k z = true := List.all_eq_true.1 h d (List.mem_of_getElem? hd)
theorem all_len {k z : Int} {l : List Dat} (h : wAll k z l = true) (h0 : k ≠ 0) : ∀ i, (eb (l.take i)).length ≤ 1048580 * i := by
  intro i
  induction i with
  | zero => simp [eb]
  | succ i ih =>
    rcases Nat.lt_or_ge i l.length with hi | hi
    · rw [List.take_succ_eq_append_getElem hi, eb_snoc, List.length_append]
      have ho := all_at h (List.getElem?_eq_getElem hi)
      have := (of_size ho).1
      rw [db_len ho h0]
      omega
    · rw [List.take_of_length_le (by omega)] at ih ⊢
      omega
theorem eb_next {k z : Int} {l : List Dat} (h : wAll k z l = true) (h0 : k ≠ 0) {i : Nat} {d : Dat} (hd : l[i]? = some d) : eb (l.take (i + 1)) = eb (l.take i) ++ db d ∧ (db d).length = dsz k z d := by
  obtain ⟨h1, h2⟩ := List.getElem?_eq_some_iff.1 hd
  subst h2
  refine ⟨?_, db_len (all_at h hd) h0⟩
  rw [List.take_succ_eq_append_getElem h1, eb_snoc]

set_option maxRecDepth 100000 in
set_option maxHeartbeats 2000000 in
theorem sizeAll_any (w : World) (p : Value) (k z : Int) (hp : Part w p k z) (h0 : k ≠ 0) (a : Option Addr) (len cap : Nat) (l : List Dat) (h : Data w a len cap l) (hall : wAll k z l = true) (hlen : len ≤ 65536) :
    Calls Try.prog 60 #[p, .slice a len cap] w fun e w' => e = .returned (.int .i64 (eb l).length) ∧ Below w.heap.size w w' := by
  have hl := h.1
  obtain ⟨f1, f2, f3, b1, b2, b3, rfl, e1, e2, e3, c1, c2, c3⟩ := hp.ex
  unfold Ent at e1
  have ab := alloc_below w (.cells #[.func (.func f1) #[] b1, .func (.func f2) #[] b2, .func (.func f3) #[] b3] 96 (0, 0))
  have hx : (w.alloc (.cells #[.func (.func f1) #[] b1, .func (.func f2) #[] b2, .func (.func f3) #[] b3] 96 (0, 0))).heap[w.heap.size]? = some (.cells #[.func (.func f1) #[] b1, .func (.func f2) #[] b2, .func (.func f3) #[] b3] 96 (0, 0)) := heap_new w _
  have HL : Hid (l.length = len) := hl
  have HM := fun i => all_len hall h0 i
  have HMh : Hid (∀ i, (eb (l.take i)).length ≤ 1048580 * i) := HM
  have hlen' : (len : Int) ≤ 65536 := by omega
  clear hl HM
  go_enter Try.func60, Try.ntmps60
  go_wp2_with fail
  generalize w.alloc (.cells #[.func (.func f1) #[] b1, .func (.func f2) #[] b2, .func (.func f3) #[] b3] 96 (0, 0)) = W0 at *
  go_loopw [5, 10] (fun sv iv wr => ∃ i n : Nat, i ≤ len ∧ iv = .int .i64 (i : Int) ∧ sv = .int .i64 (n : Int) ∧ Hid (n = (eb (l.take i)).length) ∧ Below W0.heap.size W0 wr) (fun _ iv _ => len - (intOf iv).toNat)
  case atStart => exact ⟨0, 0, Nat.zero_le _, rfl, rfl, rfl, Below.refl _ _⟩
  case round =>
    obtain ⟨i, n, hi, rfl, rfl, H, hb⟩ := hrel
    have hbw := ab.trans (hb.mono ab.size)
    by_cases hlt : i < len
    · have hlt' : (i : Int) < (len : Int) := by omega
      obtain ⟨d, g, o, hd, wd, rfl, hg, y0, y1, y2⟩ := data_at (h.later hbw) hlt
      obtain ⟨he1, he2⟩ := eb_next hall h0 hd
      have hod := of_size (all_at hall hd)
      have hsd : d.s.size ≤ 1048576 := by
        have := (fine_parts (of_parts (all_at hall hd)).2.2.1).2.2.2.2
        have hb5 : bo d.k 5 ≤ 1048576 := by simp only [bo]; split <;> omega
        omega
      have HN : Hid (n + dsz k z d = (eb (l.take (i + 1))).length) := by
        have := H.out
        show _ = _
        rw [he1, List.length_append, he2]
        omega
      have hbn : (n : Int) ≤ 1048580 * 65536 := by
        have h1 := H.out
        have h2 := HMh.out i
        have h3 : 1048580 * i ≤ 1048580 * 65536 := Nat.mul_le_mul_left _ (by omega)
        omega
      have hab := alloc_below wr (.cells #[.int .i64 d.k, .int .i64 d.n, .string d.s] 48 (0, 0))
      have C := c1 _ (hbw.trans (hab.mono hbw.size)) d hsd
      have hz1 := hod.1
      have hz1' : ((dsz k z d : Nat) : Int) ≤ 1048580 := by omega
      generalize dsz k z d = s at *
      simp only [dval] at C
      obtain ⟨⟨z0, z1, z2⟩, _⟩ := blk3 (below_at hb hx)
      have z0' := cell_later hab z0
      clear he1 he2 hod hsd hd wd c1 c2 c3 z1 z2 hz1 H
      go_wp2_with fail
      refine C.mono ?_
      rintro e W2 ⟨rfl, hb2⟩
      have hb3 := hb.trans ((hab.trans (hb2.mono hab.size)).mono hb.size)
      clear C hb2 hab z0 z0'
      go_wp2_with fail
      go_roundw
      case rel => exact ⟨i + 1, n + s, by omega, by go_num, by go_num, HN, hb3⟩
      case measure => simp [intOf]; omega
    · have hlt' : (len : Int) ≤ (i : Int) := by omega
      have HE : Hid (n = (eb l).length) := by
        have := H.out
        rw [List.take_of_length_le (by have := HL.out; omega)] at this
        exact this
      go_wp2_with fail
      go_ret
      exact ⟨by rw [HE.out]; rfl, hbw⟩

set_option maxRecDepth 100000 in
set_option maxHeartbeats 4000000 in
theorem layAll_any (w : World) (p : Value) (k z : Int) (hp : Part w p k z) (h0 : k ≠ 0) (a : Option Addr) (len cap : Nat) (l : List Dat) (h : Data w a len cap l) (hall : wAll k z l = true) (hlen : len ≤ 65536) (hsz : (eb l).length ≤ 1048576) :
    Calls Try.prog 61 #[p, .slice a len cap] w fun e w' => ∃ u, e = .returned u ∧ w'.ownsRow w.heap.size 5 1 u (eb l).length (c8 (eb l)) ∧ Below w.heap.size w w' := by
  have hl := h.1
  have SA := fun W (hb : Below w.heap.size w W) => sizeAll_any W p k z (hp.later hb) h0 a len cap l (h.later hb) hall hlen
  obtain ⟨f1, f2, f3, b1, b2, b3, rfl, e1, e2, e3, c1, c2, c3⟩ := hp.ex
  unfold Ent at e2
  have ab := alloc_below w (.cells #[.func (.func f1) #[] b1, .func (.func f2) #[] b2, .func (.func f3) #[] b3] 96 (0, 0))
  have hx : (w.alloc (.cells #[.func (.func f1) #[] b1, .func (.func f2) #[] b2, .func (.func f3) #[] b3] 96 (0, 0))).heap[w.heap.size]? = some (.cells #[.func (.func f1) #[] b1, .func (.func f2) #[] b2, .func (.func f3) #[] b3] 96 (0, 0)) := heap_new w _
  have HL : Hid (l.length = len) := hl
  obtain ⟨i0, hi, hz0, hz1, hz2⟩ := info_parts infoU8
  have hlen' : (len : Int) ≤ 65536 := by omega
  have hsz' : ((eb l).length : Int) ≤ 1048576 := by omega
  have HZ : Hid ((eb l).length ≤ 1048576) := hsz
  have HSum : Hid (∀ i, (eb (l.take i)).length ≤ (eb l).length) := by
    intro i
    have e : eb l = eb (l.take i) ++ eb (l.drop i) := by rw [← eb_append, List.take_append_drop]
    rw [e, List.length_append]
    omega
  obtain ⟨S, HS⟩ : ∃ S : Nat, Hid ((eb l).length = S) := ⟨_, rfl⟩
  rw [HS.out] at SA hsz'
  clear hl hsz
  go_enter Try.func61, Try.ntmps61
  go_wp2_with fail
  generalize w.alloc (.cells #[.func (.func f1) #[] b1, .func (.func f2) #[] b2, .func (.func f3) #[] b3] 96 (0, 0)) = W0 at *
  refine (SA _ ab).mono ?_
  rintro e W1 ⟨rfl, hb1⟩
  have hb01 := ab.trans (hb1.mono ab.size)
  have hx1 := below_at hb1 hx
  have hs1 := hb01.size
  have hbx : w.heap.size < W1.heap.size := Nat.lt_of_lt_of_le (by have := ab.size; rcases Nat.lt_or_ge w.heap.size W0.heap.size with h | h; exact h; rw [Array.getElem?_eq_none h] at hx; cases hx) hb1.size
  clear SA hb1 hx
  go_wp2_with (at_make; refine wpList_make_own _ rfl _ _ 27 rfl (w.heap.size + 1) 5 i0 (.int .u8 0) 1 Try.underlying27 hi hz0 hz1 _ _ _ S rfl rfl rfl (by rw [hz2]; omega) (by unfold maxLen; omega) (by omega) ?_; intro w2 hown2 hgrow2)
  have hb2 : Below W1.heap.size W1 w2 := (Below.refl _ W1).grown hgrow2 (Nat.le_refl _) (fun _ e => by cases e)
  have hbw2 := hb01.trans (hb2.mono hs1)
  have hx2 := below_at hb2 hx1
  clear hgrow2
  obtain ⟨B, HB⟩ : ∃ B : Nat, Hid (w.heap.size + 1 = B) := ⟨_, rfl⟩
  have hB0 : w.heap.size < B := by have := HB.out; omega
  have hB1 : B ≤ w2.heap.size := Nat.le_trans (by have := HB.out; omega) hb2.size
  rw [HB.out] at hown2
  clear hb01 hs1 hbx hx1 hb2
  go_loopw [5, 14] (fun ov iv wr => ∃ (i n : Nat), i ≤ len ∧ iv = .int .i64 (i : Int) ∧ Hid (n = (eb (l.take i)).length) ∧ wr.ownsRow B 5 1 ov n (c8 (eb (l.take i))) ∧ Below B w2 wr) (fun _ iv _ => len - (intOf iv).toNat)
  case atStart => exact ⟨0, 0, Nat.zero_le _, rfl, rfl, hown2, Below.refl _ _⟩
  case round =>
    obtain ⟨i, n, hi, rfl, H, hown, hb⟩ := hrel
    have hbw := hbw2.trans (hb.mono (Nat.le_of_lt hB0))
    by_cases hlt : i < len
    · have hlt' : (i : Int) < (len : Int) := by omega
      obtain ⟨d, g, o, hd, wd, rfl, hg, y0, y1, y2⟩ := data_at (h.later hbw) hlt
      obtain ⟨he1, he2⟩ := eb_next hall h0 hd
      have hod := all_at hall hd
      have hn : n ≤ 1048576 := by have h1 := H.out; have h2 := HSum.out i; have h3 := HZ.out; omega
      have hab := alloc_below wr (.cells #[.int .i64 d.k, .int .i64 d.n, .string d.s] 48 (0, 0))
      have hBr : B ≤ wr.heap.size := Nat.le_trans hB1 hb.size
      have C := c2 _ (hbw.trans (hab.mono hbw.size)) d B u5 n _ hod (hown.alloc _) (Nat.le_of_lt hB0) (by simp; omega) (by omega)
      have HN : Hid (n + (db d).length = (eb (l.take (i + 1))).length) := by
        have := H.out
        show _ = _
        rw [he1, List.length_append]
        omega
      rw [← c8_append, ← he1] at C
      obtain ⟨⟨z0, z1, z2⟩, _⟩ := blk3 (show wr.heap[w.heap.size]? = some _ from by rw [hb.block _ hB0]; exact hx2)
      have z1' := cell_later hab z1
      simp only [dval] at C
      clear he1 he2 hod hd wd c1 c2 c3 z0 z1 z2 H hown
      go_wp2_with fail
      refine C.mono ?_
      rintro e W3 ⟨u', rfl, hown3, hb3⟩
      have hb4 := hb.trans ((hab.mono hBr).trans hb3)
      clear C hb3 hab z1'
      go_wp2_with fail
      go_roundw
      case rel => exact ⟨i + 1, _, by omega, by go_num, HN, hown3, hb4⟩
      case measure => simp [intOf]; omega
    · have hlt' : (len : Int) ≤ (i : Int) := by omega
      have HE : Hid (n = (eb l).length ∧ wr.ownsRow B 5 1 u5 n (c8 (eb l))) := by
        have h1 := H.out
        rw [List.take_of_length_le (by have := HL.out; omega)] at h1 hown
        exact ⟨h1, hown⟩
      clear hown
      go_wp2_with fail
      go_ret
      exact ⟨_, rfl, by rw [← HE.out.1]; exact own_mono HE.out.2 (by omega), hbw⟩
end Go.Proofs.Ytfocmlajeflenaa
