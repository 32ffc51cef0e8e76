/-
  What every law of the layer needs of its frame: rows of whole numbers and bytes that came in, opened.
-/
import Derived.Test.YtlajjkpcgokinaaRows
import Derived.Test.YtlajjkpcgokinaaHbD
import Derived.Test.YtlajjkpcgokinaaBUnpAny
import Derived.ProofKit
import Derived.OpenShut
import Derived.SizedLaws
import Derived.Lib.SmallJoins
import Derived.ChangeMaps5
namespace Go.Proofs.Ytlajjkpcgokinaa
open Go.ChangeShapes Go.WideShapes Go.ChangeAt Go.RowKit Go.Joins

theorem own : ownKnob Try.prog.godebug = none := by kernel_rfl
theorem laidOut : laidOutB Try.prog = true := by kernel_rfl
/-- whole numbers that came in -/
structure IntRow (w : World) (a : Option Addr) (len cap : Nat) (l : List Int) : Prop where
  src : SrcI w a len cap l
  room : len ≤ cap
  i64 : I64 l
theorem IntRow.ln {w : World} {a : Option Addr} {len cap : Nat} {l : List Int} (h : IntRow w a len cap l) : l.length = len := by simpa using h.src.1
set_option maxRecDepth 100000 in
theorem arg_ints {H : Type} {enc : TypeId × Value → H} {W : World} {base b0 : Nat} {held : Bool} {r : Reach} {v : Value} {d : DataW H} {p : List MemPlace} (hv : Value.okWide Try.prog W r b0 23 v)
    (h : ∃ fuel, DataW.trod enc Try.prog W base (fun _ => true) held fuel 23 v.cells.toList = some (d, p)) : ∃ (a : Option Addr) (len cap : Nat) (l : List Int), v = .slice a len cap ∧ IntRow W a len cap l := by
  obtain ⟨a, len, cap, rfl, _⟩ := okWide_slice Try.underlying23 hv
  obtain ⟨fuel, hf⟩ := h
  have key : ∃ zs, IsRow .i64 W a len cap zs := by
    rcases open_ints Try.underlying23 Try.underlying3 (by kernel_rfl) hf with ⟨hcs, _⟩ | ⟨x, l, c, zs, hcs, _, hl, hm, hz, _, hcell, hwz⟩
    · simp [Value.cells] at hcs
      obtain ⟨rfl, rfl, rfl⟩ := hcs
      exact ⟨[], .inl ⟨rfl, rfl, rfl, rfl⟩⟩
    · simp [Value.cells] at hcs
      obtain ⟨rfl, rfl, rfl⟩ := hcs
      exact ⟨zs, .inr ⟨_, rfl, hl, hm, by simpa using hz, hcell, hwz⟩⟩
  obtain ⟨zs, hr⟩ := key
  have hcap : len ≤ cap := by
    rcases hr with ⟨_, h1, h2, _⟩ | ⟨_, _, h1, _⟩
    · omega
    · exact h1
  refine ⟨a, len, cap, zs.take len, rfl, hr.src, hcap, fun x hx => ?_⟩
  have hx' := List.mem_of_mem_take hx
  rcases hr with ⟨_, _, _, rfl⟩ | ⟨_, _, _, _, _, _, hw⟩
  · cases hx'
  · exact i64_wf (hw x hx')
end Go.Proofs.Ytlajjkpcgokinaa
