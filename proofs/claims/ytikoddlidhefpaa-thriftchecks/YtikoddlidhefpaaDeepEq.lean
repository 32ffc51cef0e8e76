/-
  Of a value that may be both tell the same depth.
-/
import Derived.Test.YtikoddlidhefpaaJ13
import Derived.Test.YtikoddlidhefpaaWrC
namespace Go.Proofs.Ytikoddlidhefpaa
open Go.ChangeShapes Go.WideShapes Go.ChangeAt Go.RowKit Go.Deep

theorem hb9_nests {k : Int} (h : knownB k = true) : hb9 k = nestsB k := by
  rw [known_true] at h
  rw [Bool.eq_iff_iff, nests_true]
  simp only [hb9, decide_eq_true_eq]
  omega
theorem deepF_eq : ∀ (f : Fo) (d : Int), mayF f d = true → deepF hb9 f = deepF nestsB f
  | .nil, _, _ => rfl
  | .node b o p c r, d, h => by
    rw [mayF_node, Bool.and_eq_true] at h
    have hk : knownB p.kind = true := OkV.known ⟨d, h.1⟩
    have h1 := h.1
    simp only [mayV, Bool.and_eq_true] at h1
    have e1 := deepF_eq c (rm p d) h1.2
    have e2 := deepF_eq r d h.2
    simp only [deepF, e1, e2, hb9_nests hk]
theorem deepV_eq (p : Pay) (c : Fo) (d : Int) (h : mayV p c d = true) : deepV hb9 p c = deepV nestsB p c := by
  have hk : knownB p.kind = true := OkV.known ⟨d, h⟩
  simp only [mayV, Bool.and_eq_true] at h
  simp only [deepV, deepF_eq c _ h.2, hb9_nests hk]
end Go.Proofs.Ytikoddlidhefpaa
