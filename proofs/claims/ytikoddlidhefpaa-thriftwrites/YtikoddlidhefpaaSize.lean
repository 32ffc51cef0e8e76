/-
  The law's own size: how many values, numbers and bytes there are, as far as some.
-/
import Derived.Test.YtikoddlidhefpaaJ1
namespace Go.Proofs.Ytikoddlidhefpaa
open Go.ChangeShapes Go.WideShapes Go.ChangeAt Go.RowKit

/-- what 'size' counts over a row, going on from n -/
def szL : Fo → Int → Int → Int
  | .nil, n, _ => n
  | .node _ _ p c r, n, left => if n ≤ left then szL r (n + szL c (1 + p.text.size + p.ids.length) (left - n)) left else n

theorem szL_node (b o : Nat) (p : Pay) (c r : Fo) (n left : Int) : szL (.node b o p c r) n left = if n ≤ left then szL r (n + szL c (1 + p.text.size + p.ids.length) (left - n)) left else n := rfl

def SizeC (p : Pay) (c : Fo) : Prop := ∀ (w : World) (ia : Option Addr) (ic : Nat) (la : Option Addr) (lc : Nat) (left : Int), VIn w p c ia ic la lc → -9000000000000000 ≤ left → left ≤ 9000000000000000 →
  Calls Try.prog 10 #[val p c ia ic la lc, .int .i64 left] w fun e w' => e = .returned (.int .i64 (szL c (1 + p.text.size + p.ids.length) left)) ∧ Below w.heap.size w w'

theorem szL_ge {w : World} : ∀ {f : Fo} {a : Option Addr} (n left : Int), FAt w f a → n ≤ szL f n left
  | .nil, _, n, left, _ => Int.le_refl _
  | .node _ _ p c r, a, n, left, h => by
    obtain ⟨b, o, h1, h2, h3, h4, ⟨ia, ic, la, lc, h5, h6, h7⟩, h8⟩ := h
    unfold szL
    split
    · have a1 := szL_ge (f := c) (1 + p.text.size + p.ids.length) (left - n) h7
      have a2 := szL_ge (f := r) (n + szL c (1 + p.text.size + p.ids.length) (left - n)) left h8
      omega
    · exact Int.le_refl _
theorem szL_le {w : World} : ∀ {f : Fo} {a : Option Addr} (n left : Int), FAt w f a → n ≤ left + 600000000000000 → szL f n left ≤ left + 600000000000000
  | .nil, _, n, left, _, h => h
  | .node _ _ p c r, a, n, left, h, hn => by
    obtain ⟨b, o, h1, h2, h3, h4, ⟨ia, ic, la, lc, h5, h6, h7⟩, h8⟩ := h
    have t1 := h3.text
    have t2 := h3.ids
    unfold szL
    split
    · have a1 := szL_le (f := c) (1 + p.text.size + p.ids.length) (left - n) h7 (by omega)
      exact szL_le (f := r) _ left h8 (by omega)
    · exact hn

set_option maxHeartbeats 1000000 in
theorem size_step (p : Pay) (c : Fo) (ih : ∀ x ∈ elems c, SizeC x.1 x.2) : SizeC p c := by
  intro w ia ic la lc left hv h1 h2
  have t1 := hv.ok.text
  have t2 := hv.ok.ids
  have t3 := hv.len
  have t1' : (p.text.size : Int) ≤ 140737488355328 := by omega
  have t2' : (p.ids.length : Int) ≤ 140737488355328 := by omega
  have t3' : (flen c : Int) ≤ 140737488355328 := by omega
  go_enter Try.func10, Try.ntmps10
  go_wp2_with fail
  go_loopw [5, 6] (fun nv iv wr => ∃ (i : Nat) (n : Int), i ≤ flen c ∧ iv = .int .i64 i ∧ nv = .int .i64 n ∧ Hid (szL (fdrop c i) n left = szL c (1 + p.text.size + p.ids.length) left) ∧ 0 ≤ n ∧ n ≤ 10000000000000000 ∧ Below (w.heap.size + 1) (w.alloc (.cells #[.int .i64 p.kind, .int .i64 p.key, .int .i64 p.elem, .int .i64 p.num, .string p.text, .slice ia p.ids.length ic, .slice la (flen c) lc] 26)) wr) (fun _ iv _ => flen c - (intOf iv).toNat)
  case atStart => exact ⟨0, 1 + p.text.size + p.ids.length, Nat.zero_le _, rfl, by go_num, by cases c <;> rfl, by omega, by omega, Below.refl _ _⟩
  case round =>
    obtain ⟨i, n, hi, rfl, rfl, H, n0, n1, hb⟩ := hrel
    have c6 : wr.cell? ⟨w.heap.size, 6, none⟩ = some (.slice la (flen c) lc) := box_cell hb rfl
    by_cases hlt : i < flen c
    · have hlt' : (i : Int) < (flen c : Int) := by omega
      by_cases hn : n ≤ left
      · have hi' : i < (elems c).length := by rw [elems_len]; exact hlt
        obtain ⟨⟨q, d⟩, hq⟩ : ∃ x, (elems c)[i]? = some x := ⟨_, List.getElem?_eq_getElem hi'⟩
        have hm : (q, d) ∈ elems c := List.mem_of_getElem? hq
        obtain ⟨b, o, ja, jc, ka, kc, rfl, hbl, hcs, hv'⟩ := (hv.list.later (box_below hb)).at hq
        obtain ⟨d0, d1, d2, d3, d4, d5, d6⟩ := cell7 hcs
        clear hcs
        obtain ⟨bt, ot, ef⟩ := fdrop_at hq
        have s0 := szL_ge (1 + q.text.size + q.ids.length) (left - n) hv'.list
        have s1 := szL_le (1 + q.text.size + q.ids.length) (left - n) hv'.list (by have := hv'.ok.text; have := hv'.ok.ids; omega)
        have HS : Hid (szL (fdrop c (i + 1)) (n + szL d (1 + q.text.size + q.ids.length) (left - n)) left = szL c (1 + p.text.size + p.ids.length) left) := by
          have := H.out
          rw [ef] at this
          rw [szL_node, if_pos hn] at this
          exact this
        clear H
        have R := ih _ hm wr ja jc ka kc (left - n) hv' (by omega) (by omega)
        simp only at R
        generalize szL d (1 + q.text.size + q.ids.length) (left - n) = m at *
        go_wp2_with fail
        refine R.mono ?_
        rintro e wx ⟨rfl, hwx⟩
        go_wp2_with fail
        go_roundw
        case rel => exact ⟨i + 1, n + m, by omega, by go_num, by go_num, HS, by omega, by omega, hb.trans (hwx.mono (box_size hb))⟩
        case measure => simp [intOf]; omega
      · have HE : Hid (n = szL c (1 + p.text.size + p.ids.length) left) := by
          have := H.out
          have hi' : i < (elems c).length := by rw [elems_len]; exact hlt
          obtain ⟨⟨q, d⟩, hq⟩ : ∃ x, (elems c)[i]? = some x := ⟨_, List.getElem?_eq_getElem hi'⟩
          obtain ⟨bt, ot, ef⟩ := fdrop_at hq
          rw [ef] at this
          rw [szL_node, if_neg hn] at this
          exact this
        have hn' : left < n := by omega
        go_wp2_with fail
        go_ret
        exact ⟨by rw [HE.out]; rfl, box_below hb⟩
    · have hlt' : (flen c : Int) ≤ (i : Int) := by omega
      have HE : Hid (n = szL c (1 + p.text.size + p.ids.length) left) := by
        have := H.out
        rw [show i = flen c by omega, fdrop_end] at this
        exact this
      go_wp2_with fail
      go_ret
      exact ⟨by rw [HE.out]; rfl, box_below hb⟩

theorem size_any (p : Pay) (c : Fo) : SizeC p c := every_value size_step p c
end Go.Proofs.Ytikoddlidhefpaa
