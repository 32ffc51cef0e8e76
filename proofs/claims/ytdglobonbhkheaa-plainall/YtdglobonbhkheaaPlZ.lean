/-
  Size and Write.
-/
import Derived.Test.YtdglobonbhkheaaJ7
import Derived.Test.YtdglobonbhkheaaJ8
import Derived.Test.YtdglobonbhkheaaJmp
namespace Go.Proofs.Ytdglobonbhkheaa
set_option linter.unusedVariables false
set_option linter.unusedSimpArgs false
open Go.ChangeShapes Go.WideShapes Go.ChangeAt Go.RowKit Go.Deep
attribute [local go_sem] jump_normal jump_exit jump_panic

set_option maxRecDepth 100000 in
set_option maxHeartbeats 1000000 in
theorem size1_any (d : Dat) (B : Nat) (k z : Int) (w : World) (hB : w.heap[B]? = some (.cells #[.int .i64 k, .int .i64 z] 24 (0, 0))) :
    Calls Try.prog 18 #[dval d, .pointer (some ⟨B, 0, none⟩)] w fun e w' => e = .returned (.bool (!ofB d.k d.n d.s.size k z)) ∧ Below w.heap.size w w' := by
  obtain ⟨k0, n0, s0⟩ := d
  unfold dval
  simp only
  have ab := alloc_below w (.cells #[.int .i64 k0, .int .i64 n0, .string s0] 48 (0, 0))
  obtain ⟨⟨c0, c1⟩, _⟩ := blk2 (below_at ab hB)
  have O := of_any k0 n0 s0 k z (w.alloc (.cells #[.int .i64 k0, .int .i64 n0, .string s0] 48 (0, 0)))
  generalize ofB k0 n0 s0.size k z = t at *
  go_enter Try.func18, Try.ntmps18
  go_wp2_with fail
  refine O.mono ?_
  rintro e W1 ⟨rfl, hb1⟩
  have b1 := ab.trans (hb1.mono ab.size)
  cases t
  all_goals
    go_wp2_with fail
    go_ret
    exact ⟨rfl, b1⟩

theorem wAll_step {k z : Int} {l : List Dat} {i : Nat} {d : Dat} (hd : l[i]? = some d) : wAll k z (l.drop i) = (ofB d.k d.n d.s.size k z && wAll k z (l.drop (i + 1))) := by
  obtain ⟨h1, h2⟩ := List.getElem?_eq_some_iff.1 hd
  rw [List.drop_eq_getElem_cons h1, h2]
  rfl
set_option maxRecDepth 100000 in
set_option maxHeartbeats 2000000 in
theorem indexD_any (B : Nat) (k z : Int) (w : World) (hB : w.heap[B]? = some (.cells #[.int .i64 k, .int .i64 z] 24 (0, 0))) (a : Option Addr) (len cap : Nat) (l : List Dat) (h : Data w a len cap l) :
    Calls Try.prog 33 #[.slice a len cap, .func (.func 18) #[] #[.pointer (some ⟨B, 0, none⟩)]] w fun e w' => ∃ r : Int, e = .returned (.int .i64 r) ∧ decide (0 ≤ r) = !wAll k z l ∧ Below w.heap.size w w' := by
  have HL : Hid (l.length = len) := h.1
  have hlen := h.2.2.1
  go_enter Try.func33, Try.ntmps33
  go_wp2_with fail
  go_loopw [8] (fun iv wr => ∃ i : Nat, i ≤ len ∧ iv = .int .i64 (i : Int) ∧ Hid (wAll k z (l.drop i) = wAll k z l) ∧ Below w.heap.size w wr) (fun iv _ => len - (intOf iv).toNat)
  case atStart => exact ⟨0, Nat.zero_le _, rfl, rfl, Below.refl _ _⟩
  case round =>
    obtain ⟨i, hi, rfl, H, hb⟩ := hrel
    by_cases hlt : i < len
    · have hlt' : (i : Int) < (len : Int) := by omega
      obtain ⟨d, g, o, hd, wd, rfl, hg, y0, y1, y2⟩ := data_at (h.later hb) hlt
      have HS : Hid ((ofB d.k d.n d.s.size k z && wAll k z (l.drop (i + 1))) = wAll k z l) := by
        show _ = _
        rw [← H.out, wAll_step hd]
      have C := size1_any d B k z wr (below_at hb hB)
      simp only [dval] at C
      generalize ofB d.k d.n d.s.size k z = t at *
      clear H hd wd
      go_wp2_with fail
      refine C.mono ?_
      rintro e W2 ⟨rfl, hb2⟩
      have hb3 := hb.trans (hb2.mono hb.size)
      cases t
      · have HE : Hid (wAll k z l = false) := by show _ = _; rw [← HS.out]; rfl
        go_wp2_with fail
        go_ret
        exact ⟨_, rfl, by rw [HE.out]; simp, hb3⟩
      · have HE : Hid (wAll k z (l.drop (i + 1)) = wAll k z l) := by show _ = _; rw [← HS.out]; rfl
        go_wp2_with fail
        go_roundw
        case rel => exact ⟨i + 1, by omega, by go_num, HE, hb3⟩
        case measure => simp [intOf]; omega
    · have hlt' : (len : Int) ≤ (i : Int) := by omega
      have HE : Hid (wAll k z l = true) := by
        show _ = _
        rw [← H.out, List.drop_eq_nil_of_le (by have := HL.out; omega)]
        rfl
      go_wp2_with fail
      go_ret
      exact ⟨_, rfl, by rw [HE.out]; rfl, hb⟩
set_option maxRecDepth 100000 in
set_option maxHeartbeats 1000000 in
theorem containsD_any (B : Nat) (k z : Int) (w : World) (hB : w.heap[B]? = some (.cells #[.int .i64 k, .int .i64 z] 24 (0, 0))) (a : Option Addr) (len cap : Nat) (l : List Dat) (h : Data w a len cap l) :
    Calls Try.prog 21 #[.slice a len cap, .func (.func 18) #[] #[.pointer (some ⟨B, 0, none⟩)]] w fun e w' => e = .returned (.bool (!wAll k z l)) ∧ Below w.heap.size w w' := by
  have I := indexD_any B k z w hB a len cap l h
  go_enter Try.func21, Try.ntmps21
  go_wp2_with fail
  refine I.mono ?_
  rintro e W1 ⟨r, rfl, hr, hb⟩
  go_wp2_with fail
  go_ret
  exact ⟨by rw [← hr]; rfl, hb⟩

theorem way_fd0 (g0 g1 g2 g3 : Fn) (a : Array Value) (W : World) : (Instr.field 57 (.agg #[.func g0 a #[], .func g1 a #[], .func g2 a #[], .func g3 a #[]]) 0).run Try.prog W = .ok (.func g0 a #[]) W := by kernel_rfl
theorem way_fd1 (g0 g1 g2 g3 : Fn) (a : Array Value) (W : World) : (Instr.field 57 (.agg #[.func g0 a #[], .func g1 a #[], .func g2 a #[], .func g3 a #[]]) 1).run Try.prog W = .ok (.func g1 a #[]) W := by kernel_rfl
theorem way_fd2 (g0 g1 g2 g3 : Fn) (a : Array Value) (W : World) : (Instr.field 57 (.agg #[.func g0 a #[], .func g1 a #[], .func g2 a #[], .func g3 a #[]]) 2).run Try.prog W = .ok (.func g2 a #[]) W := by kernel_rfl
theorem way_fd3 (g0 g1 g2 g3 : Fn) (a : Array Value) (W : World) : (Instr.field 57 (.agg #[.func g0 a #[], .func g1 a #[], .func g2 a #[], .func g3 a #[]]) 3).run Try.prog W = .ok (.func g3 a #[]) W := by kernel_rfl
attribute [local go_sem] way_fd0 way_fd1 way_fd2 way_fd3
set_option maxRecDepth 100000 in
set_option maxHeartbeats 2000000 in
theorem psize_any (k z : Int) (w : World) (a : Option Addr) (len cap : Nat) (l : List Dat) (h : Data w a len cap l) :
    Calls Try.prog 9 #[.agg #[.int .i64 k, .int .i64 z], .slice a len cap] w fun e w' => e = .returned (.tuple #[.int .i64 (if wNo k z l = 0 then (wSz k l : Int) else 0), .int .i64 (wNo k z l)]) ∧ Below w.heap.size w w' := by
  have HL : Hid (l.length = len) := h.1
  have hlen := h.2.2.1
  have ab := alloc_below w (.cells #[.int .i64 k, .int .i64 z] 24 (0, 0))
  have hx := heap_new w (.cells #[.int .i64 k, .int .i64 z] 24 (0, 0))
  have CK := fun W => check_any k z W
  unfold chkN at CK
  have CF := fun W (hb : Below w.heap.size w W) (hx : W.heap[w.heap.size]? = some (.cells #[.int .i64 k, .int .i64 z] 24 (0, 0))) => containsD_any w.heap.size k z W hx a len cap l (h.later hb)
  cases hc : chkB k z
  · have HE : Hid (wNo k z l = 2) := by show _ = _; simp [wNo, hc]
    rw [hc] at CK
    clear CF hc h
    go_enter Try.func9, Try.ntmps9
    go_wp2_with fail
    refine wp_scope_forward 0 rfl ?_
    go_wp2_with fail
    refine (CK _).mono ?_
    rintro e W1 ⟨rfl, hb1⟩
    go_wp2_with fail
    go_step3
    refine And.intro rfl ?_
    show Code.wp _ _ _ _ _
    go_wp2_with fail
    refine jret ?_
    go_ret2
    exact ⟨by rw [HE.out]; rfl, ab.trans (hb1.mono ab.size)⟩
  rw [hc] at CK
  cases hw : wAll k z l
  · have HE : Hid (wNo k z l = 2) := by show _ = _; simp [wNo, hc, hw]
    rw [hw] at CF
    clear hc h hw
    go_enter Try.func9, Try.ntmps9
    go_wp2_with fail
    refine wp_scope_forward 0 rfl ?_
    go_wp2_with fail
    refine (CK _).mono ?_
    rintro e W1 ⟨rfl, hb1⟩
    have b1 := ab.trans (hb1.mono ab.size)
    go_wp2_with fail
    refine (CF _ b1 (below_at hb1 hx)).mono ?_
    rintro e W2 ⟨rfl, hb2⟩
    go_wp2_with fail
    go_step3
    refine And.intro rfl ?_
    show Code.wp _ _ _ _ _
    go_wp2_with fail
    refine jret ?_
    go_ret2
    exact ⟨by rw [HE.out]; rfl, b1.trans (hb2.mono b1.size)⟩
  rw [hw] at CF
  by_cases hm : len ≤ 65536
  · have hm' : (len : Int) ≤ 65536 := by omega
    have HN : Hid (wNo k z l = if 1048576 < wSz k l then 3 else 0) := by
      show _ = _
      simp only [wNo, hc, hw, Bool.and_self]
      rw [if_neg (by decide), if_neg (by have := HL.out; omega)]
    have WO := fun W => wayOf_any k z hc W
    have HH : Hid (∀ W, Below w.heap.size w W → Data W a len cap l) := fun W hb => h.later hb
    have HS0 : Hid (k = 0 → wSz k l = (len + 7) / 8) := fun e => by rw [e, ← HL.out]; rfl
    have HS1 : Hid (k ≠ 0 → wSz k l = (eb l).length) := fun e => by unfold wSz; rw [if_neg e]
    have HB : Hid (wSz k l ≤ 1048580 * 65536) := by
      show _ ≤ _
      by_cases h0 : k = 0
      · rw [HS0.out h0]; omega
      · rw [HS1.out h0]
        have := all_len hw h0 l.length
        rw [List.take_length] at this
        have h3 : 1048580 * l.length ≤ 1048580 * 65536 := Nat.mul_le_mul_left _ (by have := HL.out; omega)
        omega
    have HW : Hid (wAll k z l = true) := hw
    have HM : Hid (len ≤ 65536) := hm
    obtain ⟨S, hS⟩ : ∃ S : Nat, Hid (wSz k l = S) := ⟨_, rfl⟩
    rw [hS.out] at HN HS0 HS1 HB
    have hSb : (S : Int) ≤ 1048580 * 65536 := by have := HB.out; omega
    clear hc h hw hm
    go_enter Try.func9, Try.ntmps9
    go_wp2_with fail
    refine wp_scope_forward 0 rfl ?_
    go_wp2_with fail
    refine (CK _).mono ?_
    rintro e W1 ⟨rfl, hb1⟩
    have b1 := ab.trans (hb1.mono ab.size)
    have hx1 := below_at hb1 hx
    go_wp2_with fail
    refine (CF _ b1 hx1).mono ?_
    rintro e W2 ⟨rfl, hb2⟩
    have b2 := b1.trans (hb2.mono b1.size)
    obtain ⟨⟨c0, c1⟩, _⟩ := blk2 (below_at hb2 hx1)
    clear CK CF hb1 hb2 hx1 hx ab b1
    go_wp2_with fail
    refine (WO _).mono ?_
    rintro e W3 ⟨v, rfl, hway, hb3⟩
    have b3 := b2.trans (hb3.mono b2.size)
    clear c0 c1 hb3 WO b2
    rcases hway with ⟨h0, rfl⟩ | ⟨h0, p, hp, rfl⟩
    · have ST := sizeTruths_any W3 a len cap HM.out
      rw [← HS0.out h0] at ST
      have HK0 : Hid (k = 0) := h0
      clear h0
      unfold truthV
      go_wp2_with fail
      refine ST.mono ?_
      rintro e W4 ⟨rfl, hW4⟩
      obtain rfl := hW4.symm
      by_cases hbig : 1048576 < S
      · have hbig' : (1048576 : Int) < (S : Int) := by omega
        have HE : Hid (wNo k z l = 3) := by show _ = _; rw [HN.out, if_pos hbig]
        go_wp2_with fail
        go_step3
        refine And.intro rfl ?_
        show Code.wp _ _ _ _ _
        go_wp2_with fail
        refine jret ?_
        go_ret2
        exact ⟨by rw [HE.out]; rfl, b3⟩
      · have hbig' : (S : Int) ≤ 1048576 := by omega
        have HE : Hid (wNo k z l = 0) := by show _ = _; rw [HN.out, if_neg hbig]
        go_wp2_with fail
        refine jret ?_
        go_ret2
        exact ⟨by rw [HE.out, hS.out]; rfl, b3⟩
    · have SA := sizeAll_any W3 p k z hp h0 a len cap l (HH.out W3 b3) HW.out HM.out
      rw [← HS1.out h0] at SA
      have HK0 : Hid (k ≠ 0) := h0
      clear h0 hp
      unfold rowV
      go_wp2_with fail
      refine SA.mono ?_
      rintro e W4 ⟨rfl, hb4⟩
      replace b3 := b3.trans (hb4.mono b3.size)
      clear hb4
      by_cases hbig : 1048576 < S
      · have hbig' : (1048576 : Int) < (S : Int) := by omega
        have HE : Hid (wNo k z l = 3) := by show _ = _; rw [HN.out, if_pos hbig]
        go_wp2_with fail
        go_step3
        refine And.intro rfl ?_
        show Code.wp _ _ _ _ _
        go_wp2_with fail
        refine jret ?_
        go_ret2
        exact ⟨by rw [HE.out]; rfl, b3⟩
      · have hbig' : (S : Int) ≤ 1048576 := by omega
        have HE : Hid (wNo k z l = 0) := by show _ = _; rw [HN.out, if_neg hbig]
        go_wp2_with fail
        refine jret ?_
        go_ret2
        exact ⟨by rw [HE.out, hS.out]; rfl, b3⟩
  · have hm' : (65536 : Int) < (len : Int) := by omega
    have HE : Hid (wNo k z l = 3) := by
      show _ = _
      simp only [wNo, hc, hw, Bool.and_self]
      rw [if_neg (by decide), if_pos (by have := HL.out; omega)]
    clear hc h hw
    go_enter Try.func9, Try.ntmps9
    go_wp2_with fail
    refine wp_scope_forward 0 rfl ?_
    go_wp2_with fail
    refine (CK _).mono ?_
    rintro e W1 ⟨rfl, hb1⟩
    have b1 := ab.trans (hb1.mono ab.size)
    go_wp2_with fail
    refine (CF _ b1 (below_at hb1 hx)).mono ?_
    rintro e W2 ⟨rfl, hb2⟩
    go_wp2_with fail
    go_step3
    refine And.intro rfl ?_
    show Code.wp _ _ _ _ _
    go_wp2_with fail
    refine jret ?_
    go_ret2
    exact ⟨by rw [HE.out]; rfl, b1.trans (hb2.mono b1.size)⟩
end Go.Proofs.Ytdglobonbhkheaa
