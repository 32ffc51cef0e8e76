/-
  What the law of texts needs of its frame: the tables by the row's condition, and a world that meets it.
-/
import Derived.Test.YtndeglamnnipoaaDoorRows
import Derived.Test.YtndeglamnnipoaaDoorHxR
import Derived.Test.YtndeglamnnipoaaDoorFrame
import Derived.ProofKit
import Derived.LaidMore
import Derived.OpenShut
import Derived.Stop.Joined
import Derived.Lib.LaidTab
import Derived.MakeChecks
namespace Go.Proofs.YtndeglamnnipoaaDoor
open Go.ChangeShapes Go.WideShapes Go.ChangeAt Go.RowKit

/-- the door's own heap meets the condition -/
theorem door_met (os : Os) (args : Array Value) : laidMetH Tryd.prog laid4 ((World.doorLaid Tryd.prog 29 os).forCall (fun _ _ => 0) ⟨#[], args, []⟩).memory :=
  laidMetH_of_parts3 (fuel := 8) (laidMet_of_run' 8 (by kernel_rfl) (by kernel_rfl)) (by kernel_rfl) (by kernel_rfl)
theorem laidVars_tail {P : Program} {w : World} {x : String × DataW Unit} {r : List (String × DataW Unit)} {ps : List MemPlace} (h : DataW.LaidVars P w (x :: r) ps) : ∃ q, DataW.LaidVars P w r q ∧ ∃ p, ps = p ++ q := by
  obtain ⟨n, d⟩ := x
  obtain ⟨g, t, cs, fuel, p, q, _, _, _, _, h2, h3⟩ := h
  exact ⟨q, h2, _, h3⟩
theorem laidMet_tail {P : Program} {w : World} {x : String × DataW Unit} {r : List (String × DataW Unit)} (h : laidMet P (x :: r) w) : laidMet P r w := by
  obtain ⟨ps, h1, h2, h3⟩ := h
  obtain ⟨q, k1, p, rfl⟩ := laidVars_tail h1
  exact ⟨q, k1, (List.nodup_append.1 h2).2.1, fun b off hb => h3 b off (List.mem_append.2 (.inr hb))⟩
theorem tabs_of_laid {W : World} (h : laidMetH Tryd.prog laid4 W) : Tabs W := by
  rw [MakeChecks.laidMetH_plain _ _ _ (by kernel_rfl)] at h
  have h2 := laidMet_tail (laidMet_tail h)
  have h10 : laidMet Tryd.prog ((nm10, Lib.tabData .u64 Lib.pow10Tab) :: laid4.drop 3) W := h2
  have h3 := laidMet_tail h2
  have hdg : laidMet Tryd.prog (((laid4.map Prod.fst).getD 3 Rows.datumTextRow.func, Lib.tabData .u8 ((List.range 16).map fun i => ((dg i : Nat) : Int))) :: []) W := h3
  have t10 := Lib.tabIs_of_head g10 (t := 52) (by kernel_rfl) Tryd.underlying52 Tryd.underlying30 (by kernel_rfl) (by kernel_rfl) h10
  have tdg := Lib.tabIs_of_head (g := 0) (by kernel_rfl) (t := 41) (by kernel_rfl) Tryd.underlying41 Tryd.underlying5 (by kernel_rfl) (by kernel_rfl) hdg
  have hs : 1 < W.heap.size := by
    rcases Nat.lt_or_ge 1 W.heap.size with hh | hh
    · exact hh
    · have h := t10
      unfold Lib.TabIs World.var? at h
      rw [g10] at h
      simp only [Option.bind_some] at h
      rw [Array.getElem?_eq_none hh] at h
      cases h
  refine ⟨fun i hi => ?_, t10, hs⟩
  rw [tdg.cell (g := 0) (by kernel_rfl) i (by simpa using hi)]
  simp [List.getD, hi]
end Go.Proofs.YtndeglamnnipoaaDoor
