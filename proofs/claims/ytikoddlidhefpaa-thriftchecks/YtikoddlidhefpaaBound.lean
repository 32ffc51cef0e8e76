/-
  How great a value is bounds how many values it holds and how many bytes it has.
-/
import Derived.Test.YtikoddlidhefpaaJ6
import Derived.Test.YtikoddlidhefpaaSize
import Derived.Test.YtikoddlidhefpaaJ7
namespace Go.Proofs.Ytikoddlidhefpaa
open Go.ChangeShapes Go.WideShapes Go.ChangeAt Go.RowKit Go.Deep

/-- all that a row holds -/
def totF : Fo → Int
  | .nil => 0
  | .node _ _ p c r => (1 + p.text.size + p.ids.length) + totF c + totF r
theorem totF_ge : ∀ f : Fo, 0 ≤ totF f
  | .nil => Int.le_refl _
  | .node _ _ p c r => by have := totF_ge c; have := totF_ge r; simp only [totF]; omega
theorem szL_up : ∀ (f : Fo) (n left : Int), n ≤ szL f n left
  | .nil, n, _ => Int.le_refl _
  | .node _ _ p c r, n, left => by
    rw [szL_node]
    split
    · have a1 := szL_up c (1 + p.text.size + p.ids.length) (left - n)
      have a2 := szL_up r (n + szL c (1 + p.text.size + p.ids.length) (left - n)) left
      omega
    · exact Int.le_refl _
/-- where it does not pass the bound, all is counted -/
theorem szL_tot : ∀ (f : Fo) (n left : Int), szL f n left ≤ left → szL f n left = n + totF f
  | .nil, n, _, _ => by simp [szL, totF]
  | .node _ _ p c r, n, left, h => by
    rw [szL_node] at h ⊢
    by_cases hn : n ≤ left
    · rw [if_pos hn] at h ⊢
      have a2 := szL_up r (n + szL c (1 + p.text.size + p.ids.length) (left - n)) left
      have e1 := szL_tot c (1 + p.text.size + p.ids.length) (left - n) (by omega)
      have e2 := szL_tot r (n + szL c (1 + p.text.size + p.ids.length) (left - n)) left h
      rw [e2, e1]
      simp only [totF]
      omega
    · rw [if_neg hn] at h
      omega
theorem cntF_tot : ∀ f : Fo, cntF f ≤ totF f
  | .nil => Int.le_refl _
  | .node _ _ p c r => by have := cntF_tot c; have := cntF_tot r; simp only [cntF, totF]; omega
theorem preB_len (p : Pay) (len : Nat) : (preB p len).length ≤ 20 + p.text.size := by
  have h1 := numB_len (zig p.num)
  have h2 := numB_len p.text.size
  have h3 := numB_len len
  have h4 := numB_len (len / 2)
  unfold preB
  repeat' split
  all_goals (try simp only [List.length_append, List.length_cons, List.length_nil, leB_len, text_len])
  all_goals omega
theorem headB_len (p : Pay) (id last : Int) : (headB p id last).length ≤ 11 := by
  have h1 := numB_len (zig id)
  unfold headB
  split
  all_goals simp only [List.length_append, List.length_cons, List.length_nil]
  all_goals omega
theorem encF_len : ∀ (f : Fo) (b : Bool) (ids : List Int) (last : Int), ((encF f b ids last).length : Int) ≤ 40 * totF f + 1
  | .nil, b, _, _ => by cases b <;> simp [encF, totF]
  | .node _ _ p c r, b, ids, last => by
    have h1 := preB_len p (flen c)
    have h2 := headB_len p (ids.headD 0) last
    have c1 := encF_len c true p.ids 0
    have c2 := encF_len c false [] 0
    have r1 := encF_len r b ids.tail (ids.headD 0)
    have t1 := totF_ge c
    have hv : ((preB p (flen c) ++ (if p.kind = 12 then encF c true p.ids 0 else if p.kind = 9 ∨ p.kind = 11 then encF c false [] 0 else [])).length : Int) ≤ 21 + p.text.size + 40 * totF c := by
      simp only [List.length_append]
      split
      · omega
      · split
        · omega
        · simp only [List.length_nil]; omega
    unfold encF
    cases b
    · simp only [Bool.false_eq_true, if_false, List.length_append (bs := encF r false ids.tail (ids.headD 0)), totF]
      omega
    · simp only [if_true, totF]
      rw [List.length_append, List.length_append]
      split
      · simp only [List.length_nil]; omega
      · omega
theorem valB_len (p : Pay) (c : Fo) : ((valB p c).length : Int) ≤ 21 + p.text.size + 40 * totF c := by
  have h1 := preB_len p (flen c)
  have c1 := encF_len c true p.ids 0
  have c2 := encF_len c false [] 0
  have t1 := totF_ge c
  unfold valB
  simp only [List.length_append]
  split
  · omega
  · split
    · omega
    · simp only [List.length_nil]; omega
end Go.Proofs.Ytikoddlidhefpaa
